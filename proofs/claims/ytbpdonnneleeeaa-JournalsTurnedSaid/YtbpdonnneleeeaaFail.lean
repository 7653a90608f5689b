/-
  Fail of package files.
-/
import Derived.Test.YtbpdonnneleeeaaFailB
import Derived.Deep.RegionHeld3
namespace Go.Proofs.Ytbpdonnneleeeaa
open Go.RowKit Go.Maps Go.Sort
set_option maxRecDepth 100000
set_option linter.unusedVariables false
set_option linter.unusedSectionVars false

/-- S' is what a crash leaves of the disk S, with the names of D -/
def FailSpec (S : St) (D : Dir) (keep : Nat) (S' : St) : Prop :=
  S'.size = S.size ∧ S'.dur = S'.pres ∧ ∀ k, (look D k = none → look S'.pres k = none) ∧ ∀ f, look D k = some f → ∃ b, look S'.pres k = some b ∧ S'.file b = cutC keep (S.file f)

/-- a disk of two directories that are one, over the files of a directory -/
theorem disk_of_dir {w : World} {F : Nat → Prop} {m m' d : Nat} {D : Dir} {file : Nat → FileC} {val : Nat → Value} {n : Nat} (h : DirAt w F m D file val) (hne : m ≠ m') (hm : OwnD w m' 64 D) (hF : F m') (hd : F d)
    (hbox : w.heap[d]? = some (.cells #[.int .i64 (n : Int), .map (some m), .map (some m')] 37 (0, 0))) (h1 : 1 ≤ n) (h2 : n ≤ 8388608) : DiskAt w F d m m' ⟨n, D, D, file⟩ val := by
  have hlive : ∀ f, St.live ⟨n, D, D, file⟩ f → ∃ k, look D k = some f := by
    rintro f (⟨k, hk⟩ | ⟨k, hk⟩) <;> exact ⟨k, hk⟩
  refine ⟨hbox, hd, h.fm, hF, hne, h.own, hm, h.ok, h.ok, fun f hf => ?_, fun f g hf hg => ?_, h.inj, h1, h2, h.lt⟩
  · obtain ⟨k, hk⟩ := hlive f hf; exact h.files k f hk
  · obtain ⟨k, hk⟩ := hlive f hf; obtain ⟨k', hk'⟩ := hlive g hg; exact h.apart k k' f g hk hk'

theorem fail_done {w w9 w10 w11 : World} {S : St} {D : Dir} {keep : Nat} {Dout : Dir} {file : Nat → FileC} {val' : Nat → Value} (h1 : 1 ≤ S.size) (h2 : S.size ≤ 8388608) (hB9 : Below w.heap.size w w9) (hdir : DirAt w10 (gath w9 w10) w9.heap.size Dout file val') (hB10 : Below w9.heap.size w9 w10)
    (hcut : CutOf S D keep (fun _ => false) Dout file) (ho : OwnD w11 w10.heap.size 64 Dout) (hB11 : Below w10.heap.size w10 w11) :
    ∃ d' S', Ending.returned (.tuple #[.pointer (some ⟨w11.heap.size, 0, none⟩), er 0]) = .returned (.tuple #[.pointer (some ⟨d', 0, none⟩), er 0]) ∧
      Below w.heap.size w (w11.alloc (.cells #[.int .i64 (S.size : Int), .map (some w9.heap.size), .map (some w10.heap.size)] 37)) ∧
      Disk (w11.alloc (.cells #[.int .i64 (S.size : Int), .map (some w9.heap.size), .map (some w10.heap.size)] 37)) (since w (w11.alloc (.cells #[.int .i64 (S.size : Int), .map (some w9.heap.size), .map (some w10.heap.size)] 37))) d' S' ∧ FailSpec S D keep S' := by
  have s9 := hB9.size
  have s10 := hB10.size
  have s11 := hB11.size
  have hlt11 := World.ownsMap.lt ho
  have hs := alloc_size w11 (.cells #[.int .i64 (S.size : Int), .map (some w9.heap.size), .map (some w10.heap.size)] 37)
  have hbox := heap_alloc_new w11 (.cells #[.int .i64 (S.size : Int), .map (some w9.heap.size), .map (some w10.heap.size)] 37)
  have hB : Below w.heap.size w w11 := (hB9.trans (hB10.mono s9)).trans (hB11.mono (by omega))
  have ho2 := World.ownsMap.alloc ho (.cells #[.int .i64 (S.size : Int), .map (some w9.heap.size), .map (some w10.heap.size)] 37)
  have hBf := below_a hB (.cells #[.int .i64 (S.size : Int), .map (some w9.heap.size), .map (some w10.heap.size)] 37)
  have hB12 := below_a hB11 (.cells #[.int .i64 (S.size : Int), .map (some w9.heap.size), .map (some w10.heap.size)] 37)
  generalize w11.alloc (.cells #[.int .i64 (S.size : Int), .map (some w9.heap.size), .map (some w10.heap.size)] 37) = W at *
  have hd2 : DirAt W (since w W) w9.heap.size Dout file val' := hdir.keep (fun i hi => ⟨by have := hi.1; omega, by have := hi.2.1; omega⟩) (fun i hi => hi.2) (fun i hi => hB12.block i hi.2.1)
  exact ⟨_, ⟨S.size, Dout, Dout, file⟩, rfl, hBf, ⟨_, _, _, disk_of_dir hd2 (by have := hdir.lt _ hdir.fm; omega) ho2 ⟨by omega, by omega⟩ ⟨by omega, by omega⟩ hbox h1 h2⟩, rfl, rfl, fun k => ⟨fun hk => (hcut k).1 (.inl hk), fun f hf => (hcut k).2 f hf rfl⟩⟩

set_option maxHeartbeats 4000000 in
theorem fail_ok_true {w : World} {F : Nat → Prop} {d pm dm : Nat} {S : St} {val : Nat → Value} (h : DiskAt w F d pm dm S val) (keep : Nat) (hk : keep ≤ 9223372036854775807) :
    Calls Try.prog 19 #[.pointer (some ⟨d, 0, none⟩), .int .i64 (keep : Int), .bool true] w fun x w' => ∃ d' S', x = .returned (.tuple #[.pointer (some ⟨d', 0, none⟩), er 0]) ∧ Below w.heap.size w w' ∧ Disk w' (since w w') d' S' ∧ FailSpec S S.pres keep S' := by
  have hmf := hmk
  have hn : argErr [decide ((0 : Int) ≤ (keep : Int))] = 0 := argErr_ok (by simp)
  have hf : firstErr [0, argErr [decide ((0 : Int) ≤ (keep : Int))]] = 0 := by rw [hn]; rfl
  have hD := h
  have HhD := Lib.hid hD; have Hhf := Lib.hid hf; have Hhk := Lib.hid hk
  clear hD hf hk
  clear h hn
  go_enter Try.func19, Try.ntmps19
  go_wp2_with fail
  refine (args_lits (w := w) rfl 1 _ _ [decide ((0 : Int) ≤ (keep : Int))] rfl (by decide)).mono ?_
  rintro x w3 ⟨q1, rfl, hb3, g1⟩
  have HB3 := Lib.hid hb3; have HG1 := Lib.hid g1
  clear hb3 g1
  go_wp2_with fail
  refine (first2 rfl _ _ (HhD.out.gives.below HB3.out) (fun _ => HG1.out)).mono ?_
  rintro x w9 ⟨rfl, hb9⟩
  rw [Hhf.out]
  have HB9 := Lib.hid (HB3.out.trans (hb9.mono HB3.out.size))
  clear hb9
  have D9 := HhD.out.below HB9.out
  have c0 := D9.c0
  have c1 := D9.c1
  have c2 := D9.c2
  have HFd := Lib.hid (dirFailed_ok D9 S.pres pm keep D9.pres D9.presOK (fun k f hh => .inl ⟨k, hh⟩) D9.fp Hhk.out)
  have HD9 := Lib.hid D9
  clear D9
  go_wp2_with fail
  refine HFd.out.mono ?_
  rintro x w10 ⟨Dout, file, val', rfl, hdir, hb10, hcut⟩
  have D10 := HD9.out.below hb10
  have e0 : w10.cell? ⟨d, 0, none⟩ = some (.int .i64 (S.size : Int)) := D10.c0
  have HDir := Lib.hid hdir; have HB10 := Lib.hid hb10; have HCut := Lib.hid hcut
  have HC := Lib.hid (mapsClone_owns 9 pE w9.heap.size 64 Dout w10.drew hdir.own.drew)
  have HE : Hid (∀ W, Below w10.heap.size w10 W → W.cell? ⟨d, 0, none⟩ = some (.int .i64 (S.size : Int))) := fun W hW => (D10.below hW).c0
  clear hdir hb10 hcut D10 c0 c1 c2 HFd
  go_wp2_with fail
  go_region_held3 (fun W => W.cell? ⟨d, 0, none⟩ = some (.int .i64 (S.size : Int))) (first | exact HE.out _ (by exact below_any rfl rfl rfl rfl) | exact HE.out _ hb11 | exact HE.out _ (below_a hb11 _))
    (first
     | (go_at_call 39; refine HC.out.mono ?_; rintro x w11 ⟨rfl, ho11, hm11, hb11'⟩; have hb11 : Below w10.heap.size w10 w11 := (below_q w10 1).trans hb11'))
  have HX := Lib.hid (fail_done HD9.out.lo HD9.out.hi HB9.out HDir.out HB10.out HCut.out ho11 hb11)
  clear ho11 hm11 hb11 hb11' HC HE e0
  go_wp2
  go_ret2
  exact HX.out
set_option maxHeartbeats 4000000 in
theorem fail_ok_false {w : World} {F : Nat → Prop} {d pm dm : Nat} {S : St} {val : Nat → Value} (h : DiskAt w F d pm dm S val) (keep : Nat) (hk : keep ≤ 9223372036854775807) :
    Calls Try.prog 19 #[.pointer (some ⟨d, 0, none⟩), .int .i64 (keep : Int), .bool false] w fun x w' => ∃ d' S', x = .returned (.tuple #[.pointer (some ⟨d', 0, none⟩), er 0]) ∧ Below w.heap.size w w' ∧ Disk w' (since w w') d' S' ∧ FailSpec S S.dur keep S' := by
  have hmf := hmk
  have hn : argErr [decide ((0 : Int) ≤ (keep : Int))] = 0 := argErr_ok (by simp)
  have hf : firstErr [0, argErr [decide ((0 : Int) ≤ (keep : Int))]] = 0 := by rw [hn]; rfl
  have hD := h
  have HhD := Lib.hid hD; have Hhf := Lib.hid hf; have Hhk := Lib.hid hk
  clear hD hf hk
  clear h hn
  go_enter Try.func19, Try.ntmps19
  go_wp2_with fail
  refine (args_lits (w := w) rfl 1 _ _ [decide ((0 : Int) ≤ (keep : Int))] rfl (by decide)).mono ?_
  rintro x w3 ⟨q1, rfl, hb3, g1⟩
  have HB3 := Lib.hid hb3; have HG1 := Lib.hid g1
  clear hb3 g1
  go_wp2_with fail
  refine (first2 rfl _ _ (HhD.out.gives.below HB3.out) (fun _ => HG1.out)).mono ?_
  rintro x w9 ⟨rfl, hb9⟩
  rw [Hhf.out]
  have HB9 := Lib.hid (HB3.out.trans (hb9.mono HB3.out.size))
  clear hb9
  have D9 := HhD.out.below HB9.out
  have c0 := D9.c0
  have c1 := D9.c1
  have c2 := D9.c2
  have HFd := Lib.hid (dirFailed_ok D9 S.dur dm keep D9.dur D9.durOK (fun k f hh => .inr ⟨k, hh⟩) D9.fm Hhk.out)
  have HD9 := Lib.hid D9
  clear D9
  go_wp2_with fail
  refine HFd.out.mono ?_
  rintro x w10 ⟨Dout, file, val', rfl, hdir, hb10, hcut⟩
  have D10 := HD9.out.below hb10
  have e0 : w10.cell? ⟨d, 0, none⟩ = some (.int .i64 (S.size : Int)) := D10.c0
  have HDir := Lib.hid hdir; have HB10 := Lib.hid hb10; have HCut := Lib.hid hcut
  have HC := Lib.hid (mapsClone_owns 9 pE w9.heap.size 64 Dout w10.drew hdir.own.drew)
  have HE : Hid (∀ W, Below w10.heap.size w10 W → W.cell? ⟨d, 0, none⟩ = some (.int .i64 (S.size : Int))) := fun W hW => (D10.below hW).c0
  clear hdir hb10 hcut D10 c0 c1 c2 HFd
  go_wp2_with fail
  go_region_held3 (fun W => W.cell? ⟨d, 0, none⟩ = some (.int .i64 (S.size : Int))) (first | exact HE.out _ (by exact below_any rfl rfl rfl rfl) | exact HE.out _ hb11 | exact HE.out _ (below_a hb11 _))
    (first
     | (go_at_call 39; refine HC.out.mono ?_; rintro x w11 ⟨rfl, ho11, hm11, hb11'⟩; have hb11 : Below w10.heap.size w10 w11 := (below_q w10 1).trans hb11'))
  have HX := Lib.hid (fail_done HD9.out.lo HD9.out.hi HB9.out HDir.out HB10.out HCut.out ho11 hb11)
  clear ho11 hm11 hb11 hb11' HC HE e0
  go_wp2
  go_ret2
  exact HX.out
end Go.Proofs.Ytbpdonnneleeeaa
