/-
  The laws' Book: Apart, of any number of lists of bytes, each in memory of its own.
-/
import Derived.Test.YtjeijgkkobmdbaaGreatDoorBookE
import Derived.Test.YtjeijgkkobmdbaaGreatDoorBookF
namespace Go.Proofs.YtjeijgkkobmdbaaGreatDoor
open Go.RowKit
set_option linter.unusedVariables false

theorem first_grw {w : World} {base : Nat} {ls : List BL} (hF : Filled w base ls ls.length) (hD : Dis ls) : Grw w base (ls.map fun b => (b, nilS)) 0 ∧ DisG w (ls.map fun b => (b, nilS)) := by
  have key : ∀ {i : Nat} {b : BL} {lv : Value}, (ls.map fun b => (b, nilS))[i]? = some (b, lv) → ls[i]? = some b ∧ lv = nilS := by
    intro i b lv h
    rw [List.getElem?_map] at h
    cases hx : ls[i]? with
    | none => rw [hx] at h; cases h
    | some x => rw [hx] at h; injection h with h; injection h with h1 h2; subst h1; exact ⟨rfl, h2.symm⟩
  have hlt : ∀ {i : Nat} {b : BL}, ls[i]? = some b → i < ls.length := fun h => by rcases List.getElem?_eq_some_iff.1 h with ⟨h, _⟩; exact h
  refine ⟨fun i b lv h => ?_, fun i j o hi hj => ?_, fun i o hi => ?_⟩
  · obtain ⟨h1, h2⟩ := key h
    obtain ⟨xs, hx, he⟩ := hF i b h1
    rw [he (hlt h1)] at hx
    exact ⟨hx, fun h => by omega, fun _ => h2⟩
  · obtain ⟨bi, li, h1, h2⟩ := hi
    obtain ⟨bj, lj, h3, h4⟩ := hj
    obtain ⟨e1, e2⟩ := key h1
    obtain ⟨e3, e4⟩ := key h3
    subst e2 e4
    have o1 : bi.v.ownBlock = some o := by rcases h2 with h | h; exact h; cases h
    have o2 : bj.v.ownBlock = some o := by rcases h4 with h | h; exact h; cases h
    rcases Nat.decEq i j with hne | he
    · rcases hD i j bi bj hne e1 e3 with h | h
      · rw [o1] at h; cases h
      · exact absurd (o1.trans o2.symm) h
    · exact he
  · obtain ⟨bi, li, h1, h2⟩ := hi
    obtain ⟨e1, e2⟩ := key h1
    subst e2
    have o1 : bi.v.ownBlock = some o := by rcases h2 with h | h; exact h; cases h
    obtain ⟨xs, hx, _⟩ := hF i bi e1
    exact (hx.lt o o1).2

set_option maxRecDepth 100000 in
set_option maxHeartbeats 4000000 in
theorem apart_any (g n base : Nat) (vb : Value) (ls : List BL) (w : World) (hB : BookIs w g n vb) (hown : w.ownsRow base 61 3 vb ls.length (held0 ls)) (hF : Filled w base ls 0) (hD : Dis ls) (hbase : base ≤ w.heap.size) (hl : ls.length ≤ 1000)
    (hb : ∀ b ∈ ls, b.n ≤ 1099511627776 ∧ b.num ≤ 1000000) :
    Calls Tryz.prog 11 #[.pointer (some ⟨g, 0, none⟩)] w fun e w' => e = .returned (.bool true) ∧ Below base w w' := by
  have FF := Lib.hid (fillByte_any g n base vb ls w hB hown hF hD hbase hl hb)
  have HD := Lib.hid hD; have HBD := Lib.hid hb
  clear hB hown hF hD hb
  go_enter Tryz.func11, Tryz.ntmps11
  go_wp2_with fail
  refine FF.out.mono ?_
  rintro e w1 ⟨rfl, m1, hm1, he1, hB1, hown1, hF1, hbel1⟩
  have hm1' : m1 = ls.length := by
    injection he1 with _ he1
    omega
  subst hm1'
  have HB1 := Lib.hid hB1; have HBEL1 := Lib.hid hbel1
  have hst := first_grw hF1 HD.out
  have hown1' : w1.ownsRow base 61 3 vb ls.length (heldG (ls.map fun b => (b, nilS))) := by rw [← heldG_of0]; exact hown1
  have GG := Lib.hid (growByte_any g n base vb ls (ls.map fun b => (b, nilS)) w1 hB1 (by rw [List.map_map]; exact List.map_id'' (fun _ => rfl) ls) hown1' hst.1 hst.2 (Nat.le_trans hbase hbel1.size) hl HBD.out)
  clear FF he1 hB1 hown1 hF1 hbel1 hst hown1'
  go_wp2_with fail
  refine (fillId_none g n vb w1 HB1.out).mono ?_
  rintro e w' ⟨rfl, rfl⟩
  go_wp2_with fail
  refine (fillNum_none g n vb w1 HB1.out).mono ?_
  rintro e w' ⟨rfl, rfl⟩
  go_wp2_with fail
  refine (fillInt_none g n vb w1 HB1.out).mono ?_
  rintro e w' ⟨rfl, rfl⟩
  go_wp2_with fail
  refine (fillText_none g n vb w1 HB1.out).mono ?_
  rintro e w' ⟨rfl, rfl⟩
  go_wp2_with fail
  refine (fillRow_none g n vb w1 HB1.out).mono ?_
  rintro e w' ⟨rfl, rfl⟩
  go_wp2_with fail
  refine (fillChange_none g n vb w1 HB1.out).mono ?_
  rintro e w' ⟨rfl, rfl⟩
  go_wp2_with fail
  refine (fillEntry_none g n vb w1 HB1.out).mono ?_
  rintro e w' ⟨rfl, rfl⟩
  go_wp2_with fail
  refine (fillFile_none g n vb w1 HB1.out).mono ?_
  rintro e w' ⟨rfl, rfl⟩
  go_wp2_with fail
  refine (fillItem_none g n vb w1 HB1.out).mono ?_
  rintro e w' ⟨rfl, rfl⟩
  go_wp2_with fail
  refine (fillSaid_none g n vb w1 HB1.out).mono ?_
  rintro e w' ⟨rfl, rfl⟩
  go_wp2_with fail
  refine (fillMsg_none g n vb w1 HB1.out).mono ?_
  rintro e w' ⟨rfl, rfl⟩
  go_wp2_with fail
  refine (fillEvent_none g n vb w1 HB1.out).mono ?_
  rintro e w' ⟨rfl, rfl⟩
  go_wp2_with fail
  refine GG.out.mono ?_
  rintro e w2 ⟨rfl, m2, gs, hm2, he2, hgs, hB2, hown2, hG2, hD2, hbel2⟩
  have hm2' : m2 = ls.length := by
    injection he2 with _ he2
    omega
  have hgl : gs.length = ls.length := by rw [← hgs]; simp
  have HB2 := Lib.hid hB2
  have HBEL2 := Lib.hid (HBEL1.out.trans hbel2)
  have LL := Lib.hid (lookByte_any g n base vb gs w2 hB2 (by rw [hgl]; exact hown2) (by rw [hgl, ← hm2']; exact hG2) (by omega) (fun p hp => HBD.out p.1 (by rw [← hgs]; exact List.mem_map_of_mem hp)))
  clear GG he2 hB2 hown2 hG2 hD2 hbel2 hm2' hgl HBEL1 HB1 hgs hm2
  go_wp2_with fail
  refine (growId_none g n vb w2 HB2.out).mono ?_
  rintro e w' ⟨rfl, rfl⟩
  go_wp2_with fail
  refine (growNum_none g n vb w2 HB2.out).mono ?_
  rintro e w' ⟨rfl, rfl⟩
  go_wp2_with fail
  refine (growInt_none g n vb w2 HB2.out).mono ?_
  rintro e w' ⟨rfl, rfl⟩
  go_wp2_with fail
  refine (growText_none g n vb w2 HB2.out).mono ?_
  rintro e w' ⟨rfl, rfl⟩
  go_wp2_with fail
  refine (growRow_none g n vb w2 HB2.out).mono ?_
  rintro e w' ⟨rfl, rfl⟩
  go_wp2_with fail
  refine (growChange_none g n vb w2 HB2.out).mono ?_
  rintro e w' ⟨rfl, rfl⟩
  go_wp2_with fail
  refine (growEntry_none g n vb w2 HB2.out).mono ?_
  rintro e w' ⟨rfl, rfl⟩
  go_wp2_with fail
  refine (growFile_none g n vb w2 HB2.out).mono ?_
  rintro e w' ⟨rfl, rfl⟩
  go_wp2_with fail
  refine (growItem_none g n vb w2 HB2.out).mono ?_
  rintro e w' ⟨rfl, rfl⟩
  go_wp2_with fail
  refine (growSaid_none g n vb w2 HB2.out).mono ?_
  rintro e w' ⟨rfl, rfl⟩
  go_wp2_with fail
  refine (growMsg_none g n vb w2 HB2.out).mono ?_
  rintro e w' ⟨rfl, rfl⟩
  go_wp2_with fail
  refine (growEvent_none g n vb w2 HB2.out).mono ?_
  rintro e w' ⟨rfl, rfl⟩
  go_wp2_with fail
  refine LL.out.mono ?_
  rintro e w3 ⟨rfl, hg3⟩
  have HB3 := Lib.hid (HB2.out.grown hg3 (by simp))
  have HBEL3 := Lib.hid (HBEL2.out.grown hg3 (Nat.le_trans hbase HBEL2.out.size) (by simp))
  clear LL hg3 HB2 HBEL2
  go_wp2_with fail
  refine (lookId_none g n vb w3 HB3.out).mono ?_
  rintro e w' ⟨rfl, rfl⟩
  go_wp2_with fail
  refine (lookNum_none g n vb w3 HB3.out).mono ?_
  rintro e w' ⟨rfl, rfl⟩
  go_wp2_with fail
  refine (lookInt_none g n vb w3 HB3.out).mono ?_
  rintro e w' ⟨rfl, rfl⟩
  go_wp2_with fail
  refine (lookText_none g n vb w3 HB3.out).mono ?_
  rintro e w' ⟨rfl, rfl⟩
  go_wp2_with fail
  refine (lookRow_none g n vb w3 HB3.out).mono ?_
  rintro e w' ⟨rfl, rfl⟩
  go_wp2_with fail
  refine (lookChange_none g n vb w3 HB3.out).mono ?_
  rintro e w' ⟨rfl, rfl⟩
  go_wp2_with fail
  refine (lookEntry_none g n vb w3 HB3.out).mono ?_
  rintro e w' ⟨rfl, rfl⟩
  go_wp2_with fail
  refine (lookFile_none g n vb w3 HB3.out).mono ?_
  rintro e w' ⟨rfl, rfl⟩
  go_wp2_with fail
  refine (lookItem_none g n vb w3 HB3.out).mono ?_
  rintro e w' ⟨rfl, rfl⟩
  go_wp2_with fail
  refine (lookSaid_none g n vb w3 HB3.out).mono ?_
  rintro e w' ⟨rfl, rfl⟩
  go_wp2_with fail
  refine (lookMsg_none g n vb w3 HB3.out).mono ?_
  rintro e w' ⟨rfl, rfl⟩
  go_wp2_with fail
  refine (lookEvent_none g n vb w3 HB3.out).mono ?_
  rintro e w' ⟨rfl, rfl⟩
  go_wp2
  go_ret
  exact ⟨rfl, HBEL3.out⟩
end Go.Proofs.YtjeijgkkobmdbaaGreatDoor
