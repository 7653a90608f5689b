/-
  Contracts of package ints: Put, PutText.
-/
import Derived.Test.YtodmgmfanpnabaaGreatDoorIntsA
import Derived.Test.YtodmgmfanpnabaaGreatDoorCollect
import Derived.Lib.AppendStr
namespace Go.Proofs.YtodmgmfanpnabaaGreatDoor
open Go.RowKit
set_option linter.unusedVariables false
set_option maxRecDepth 100000

set_option maxHeartbeats 1000000 in
theorem put_any (A : Option Addr) (n c k : Nat) (l : List UInt8) (w : World) (h1 : Lies w w.heap.size 1 A n (l.map bv)) (hk : k < 18446744073709551616) (hs : n ≤ 549755813888) :
    Calls Tryz.prog 212 #[.slice A n c, .int .u64 (k : Int)] w fun e w' => ∃ v, e = .returned v ∧ w'.ownsRow w.heap.size 5 1 v (n + (Vi.enc k).length) ((l ++ Vi.enc k).map bv) ∧ Below w.heap.size w w' := by
  have hen := Vi.enc_len k
  go_enter Tryz.func212, Tryz.ntmps212
  go_wp2_with fail
  refine (varint_any k w hk).mono ?_
  rintro e w1 ⟨v, rfl, hown, hb⟩
  obtain ⟨A2, c2, rfl, _⟩ := own_shape hown
  go_wp2_with fail
  refine (collect_any A A2 n _ c c2 l (Vi.enc k) w1 ((h1.below hb).more hb.size) (Lies.of_own hown) (by omega)).mono ?_
  rintro e w2 ⟨v2, rfl, hown2, hb2⟩
  go_wp2
  go_ret
  exact ⟨_, rfl, own_base hown2 hb.size, hb.trans (hb2.mono hb.size)⟩

set_option maxHeartbeats 1000000 in
theorem putText_any (A : Option Addr) (n c : Nat) (s : ByteArray) (l : List UInt8) (w : World) (h1 : Lies w w.heap.size 1 A n (l.map bv)) (hs : n + s.size ≤ 549755813888) :
    Calls Tryz.prog 236 #[.slice A n c, .string s] w fun e w' => ∃ v, e = .returned v ∧ w'.ownsRow w.heap.size 5 1 v (n + ((Vi.enc s.size).length + s.size)) ((l ++ (Vi.enc s.size ++ s.data.toList)).map bv) ∧ Below w.heap.size w w' := by
  obtain ⟨i0, hi, hz0, hz1, hz2⟩ := info_parts byte_info
  have hen := Vi.enc_len s.size
  go_enter Tryz.func236, Tryz.ntmps236
  go_wp2_with fail
  refine (varint_any s.size w (by omega)).mono ?_
  rintro e w1 ⟨v, rfl, hown, hb⟩
  go_wp2_with (at_builtin; refine Lib.wpList_append_own_string _ rfl (.tmp 9) (.tmp 10) 54 9 rfl w.heap.size 5 i0 Tryz.underlying54 Tryz.underlying9 hi hz0 hz1 hz2 v _ _ rfl hown s rfl (by unfold maxLen; omega) (by omega) hb.size ?_; intro v2 w2 hown2 hg2 _)
  have hb2 : Below w.heap.size w w2 := hb.grown hg2 hb.size (fun k hk => (hown.lt k hk).1)
  have hown3 : w2.ownsRow w.heap.size 5 1 v2 ((Vi.enc s.size).length + s.size) ((Vi.enc s.size ++ s.data.toList).map bv) := by rw [List.map_append]; exact hown2
  clear hown2 hg2 hown
  obtain ⟨A2, c2, rfl, _⟩ := own_shape hown3
  refine (collect_any A A2 n _ c c2 l _ w2 ((h1.below hb2).more hb2.size) (Lies.of_own hown3) (by omega)).mono ?_
  rintro e w3 ⟨v3, rfl, hown4, hb3⟩
  go_wp2
  go_ret
  exact ⟨_, rfl, own_base hown4 hb2.size, hb2.trans (hb3.mono hb2.size)⟩

end Go.Proofs.YtodmgmfanpnabaaGreatDoor
