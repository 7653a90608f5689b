/-
  Fail of package files.
-/
import Derived.Test.YtopcnlophmplgaaFailB
import Derived.Deep.RegionHeld3
namespace Go.Proofs.Ytopcnlophmplgaa
open Go.RowKit Go.Maps Go.Sort
set_option maxRecDepth 100000
set_option linter.unusedVariables false
set_option linter.unusedSectionVars false

/-- S' is what a crash leaves of the disk S, with the names of D -/
def FailSpec (S : St) (D : Dir) (keep : Nat) (S' : St) : Prop :=
  S'.size = S.size ∧ S'.dur = S'.pres ∧ ∀ k, (look D k = none → look S'.pres k = none) ∧ ∀ f, look D k = some f → ∃ b, look S'.pres k = some b ∧ S'.file b = cutC keep (S.file f)

/-- a disk of two directories that are one, over the files of a directory -/
theorem disk_of_dir {w : World} {F : Nat → Prop} {m m' d : Nat} {D : Dir} {file : Nat → FileC} {val : Nat → Value} {n : Nat} (h : DirAt w F m D file val) (hne : m ≠ m') (hm : OwnD w m' 64 D) (hF : F m') (hd : F d)
    (hbox : w.heap[d]? = some (.cells #[.int .i64 (n : Int), .map (some m), .map (some m')] 95 (0, 0))) (h1 : 1 ≤ n) (h2 : n ≤ 8388608) : DiskAt w F d m m' ⟨n, D, D, file⟩ val := by
  have hlive : ∀ f, St.live ⟨n, D, D, file⟩ f → ∃ k, look D k = some f := by
    rintro f (⟨k, hk⟩ | ⟨k, hk⟩) <;> exact ⟨k, hk⟩
  refine ⟨hbox, hd, h.fm, hF, hne, h.own, hm, h.ok, h.ok, fun f hf => ?_, fun f g hf hg => ?_, h.inj, h1, h2, h.lt⟩
  · obtain ⟨k, hk⟩ := hlive f hf; exact h.files k f hk
  · obtain ⟨k, hk⟩ := hlive f hf; obtain ⟨k', hk'⟩ := hlive g hg; exact h.apart k k' f g hk hk'

theorem fail_done {w w9 w10 w11 : World} {S : St} {D : Dir} {keep : Nat} {Dout : Dir} {file : Nat → FileC} {val' : Nat → Value} (h1 : 1 ≤ S.size) (h2 : S.size ≤ 8388608) (hB9 : Below w.heap.size w w9) (hdir : DirAt w10 (gath w9 w10) w9.heap.size Dout file val') (hB10 : Below w9.heap.size w9 w10)
    (hcut : CutOf S D keep (fun _ => false) Dout file) (ho : OwnD w11 w10.heap.size 64 Dout) (hB11 : Below w10.heap.size w10 w11) :
    ∃ d' S', Ending.returned (.tuple #[.pointer (some ⟨w11.heap.size, 0, none⟩), er 0]) = .returned (.tuple #[.pointer (some ⟨d', 0, none⟩), er 0]) ∧
      Below w.heap.size w (w11.alloc (.cells #[.int .i64 (S.size : Int), .map (some w9.heap.size), .map (some w10.heap.size)] 95)) ∧
      Disk (w11.alloc (.cells #[.int .i64 (S.size : Int), .map (some w9.heap.size), .map (some w10.heap.size)] 95)) (since w (w11.alloc (.cells #[.int .i64 (S.size : Int), .map (some w9.heap.size), .map (some w10.heap.size)] 95))) d' S' ∧ FailSpec S D keep S' := by
  have s9 := hB9.size
  have s10 := hB10.size
  have s11 := hB11.size
  have hlt11 := World.ownsMap.lt ho
  have hs := alloc_size w11 (.cells #[.int .i64 (S.size : Int), .map (some w9.heap.size), .map (some w10.heap.size)] 95)
  have hbox := heap_alloc_new w11 (.cells #[.int .i64 (S.size : Int), .map (some w9.heap.size), .map (some w10.heap.size)] 95)
  have hB : Below w.heap.size w w11 := (hB9.trans (hB10.mono s9)).trans (hB11.mono (by omega))
  have ho2 := World.ownsMap.alloc ho (.cells #[.int .i64 (S.size : Int), .map (some w9.heap.size), .map (some w10.heap.size)] 95)
  have hBf := below_a hB (.cells #[.int .i64 (S.size : Int), .map (some w9.heap.size), .map (some w10.heap.size)] 95)
  have hB12 := below_a hB11 (.cells #[.int .i64 (S.size : Int), .map (some w9.heap.size), .map (some w10.heap.size)] 95)
  generalize w11.alloc (.cells #[.int .i64 (S.size : Int), .map (some w9.heap.size), .map (some w10.heap.size)] 95) = W at *
  have hd2 : DirAt W (since w W) w9.heap.size Dout file val' := hdir.keep (fun i hi => ⟨by have := hi.1; omega, by have := hi.2.1; omega⟩) (fun i hi => hi.2) (fun i hi => hB12.block i hi.2.1)
  exact ⟨_, ⟨S.size, Dout, Dout, file⟩, rfl, hBf, ⟨_, _, _, disk_of_dir hd2 (by have := hdir.lt _ hdir.fm; omega) ho2 ⟨by omega, by omega⟩ ⟨by omega, by omega⟩ hbox h1 h2⟩, rfl, rfl, fun k => ⟨fun hk => (hcut k).1 (.inl hk), fun f hf => (hcut k).2 f hf rfl⟩⟩

end Go.Proofs.Ytopcnlophmplgaa
