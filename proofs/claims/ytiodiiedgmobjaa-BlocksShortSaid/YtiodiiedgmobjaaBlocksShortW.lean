/-
  The walk of BlocksShort.
-/
import Derived.Test.YtiodiiedgmobjaaBlocksManyW
import Derived.Laws.IdiomStrings
namespace Go.Proofs.Ytiodiiedgmobjaa
open Go.RowKit
set_option linter.unusedVariables false
set_option maxRecDepth 100000

def oneB (i : Nat) : ByteArray := ⟨#[UInt8.ofNat (100 + i)]⟩
def shE (key : ByteArray) (s i : Nat) : En := ⟨⟨key ++ oneB i, s, false⟩, ⟨#[118]⟩⟩
def shL (key : ByteArray) (s n : Nat) : List En := (List.range n).map (shE key s)
theorem shL_succ (key : ByteArray) (s n : Nat) : shL key s (n + 1) = shL key s n ++ [shE key s n] := by unfold shL; rw [List.range_succ, List.map_append]; rfl
theorem shL_len (key : ByteArray) (s n : Nat) : (shL key s n).length = n := by unfold shL; simp
theorem sh_key (key : ByteArray) (i : Nat) : (key ++ oneB i).data.toList = key.data.toList ++ [UInt8.ofNat (100 + i)] ∧ (key ++ oneB i).size = key.size + 1 := by
  constructor
  · simp [oneB]
  · rw [ByteArray.size_append]; rfl
theorem sh_fine (key : ByteArray) (hk : key.size ≤ 30) (s i : Nat) : fineE (shE key s i) = true := by
  unfold fineE shE chk
  have h1 := (sh_key key i).2
  have h2 : (ByteArray.mk #[118]).size = 1 := rfl
  simp only [h1, h2]
  simp
  omega
theorem app_lt (l : List UInt8) {a b : UInt8} (h : a < b) : l ++ [a] < l ++ [b] := by
  induction l with
  | nil => show [a] < [b]; rw [List.cons_lt_cons_iff]; exact .inl h
  | cons x l ih => rw [List.cons_append, List.cons_append, List.cons_lt_cons_iff]; exact .inr ⟨rfl, ih⟩
theorem sh_less (key : ByteArray) (i j : Nat) (hi : i < j) (hj : j < 100) : lessB (key ++ oneB i) (key ++ oneB j) = true := by
  rw [lessB_eq, (sh_key key i).1, (sh_key key j).1]
  apply decide_eq_true
  apply app_lt
  rw [UInt8.lt_iff_toNat_lt, Vi.toNat_ofNat _ (by omega), Vi.toNat_ofNat _ (by omega)]; omega
theorem sh_ok (key : ByteArray) (hk : key.size ≤ 30) (s n : Nat) (h1 : 1 ≤ n) (h2 : n ≤ 64) : okB (shL key s n) = true := by
  refine (okB_iff _).2 ⟨by rw [shL_len]; exact h1, by rw [shL_len]; exact h2, fun e he => ?_, ?_⟩
  · obtain ⟨i, _, rfl⟩ := List.mem_map.1 he
    exact sh_fine key hk s i
  · unfold Rise shL
    rw [List.pairwise_map]
    refine List.Pairwise.imp_of_mem ?_ List.pairwise_lt_range
    intro i j hi hj hij
    rw [List.mem_range] at hi hj
    have h := sh_less key i j hij (by omega)
    rw [cmpM_eq]
    have hc : cmpS (shE key s i).m.k (shE key s j).m.k = -1 := if_pos h
    rw [hc, if_pos (by decide)]
    decide
theorem sh_seqs (key : ByteArray) (s n : Nat) (hs : s < 18446744073709551616) : ∀ e ∈ shL key s n, e.m.s < 18446744073709551616 := by
  intro e he
  obtain ⟨i, _, rfl⟩ := List.mem_map.1 he
  exact hs
theorem sh_sz (key : ByteArray) (hk : key.size ≤ 30) (s n : Nat) : ∀ e ∈ shL key s n, e.m.k.size ≤ 140737488351232 ∧ e.x.size ≤ 140737488351232 := by
  intro e he
  obtain ⟨i, _, rfl⟩ := List.mem_map.1 he
  have h := fine_size (sh_fine key hk s i)
  exact ⟨by omega, by omega⟩
theorem cpl_same (l : List UInt8) {a b : UInt8} (h : a ≠ b) : cpl (l ++ [a]) (l ++ [b]) = l.length := by
  induction l with
  | nil => simp [cpl, h]
  | cons x l ih => rw [List.cons_append, List.cons_append, cpl, if_pos rfl, ih, List.length_cons]
theorem enc_small (n : Nat) (hn : n < 128) : (Vi.enc n).length = 1 := by unfold Vi.enc Vi.encF; rw [if_pos hn]; rfl
theorem sh_row (key : ByteArray) (hk : key.size ≤ 30) (s n : Nat) (p : ByteArray) (c : Nat) (hp : cpK (key ++ oneB n) p = c) (hc : c ≤ key.size) : (rowE p (shE key s n)).length + c = key.size + (Vi.enc s).length + 6 := by
  have hz := (sh_key key n).2
  have hcs := cutK_size (key ++ oneB n) c
  have h1 := enc_small c (by omega)
  have h2 := enc_small (cutK (key ++ oneB n) c).size (by omega)
  have h3 := slen (cutK (key ++ oneB n) c)
  have h4 := enc_small (ByteArray.mk #[118]).size (by decide)
  have h5 : (ByteArray.mk #[118]).data.toList.length = 1 := rfl
  unfold rowE shE
  rw [hp]
  unfold encE restE tailE
  simp only [List.length_append, h1, h2, h3, Bool.false_eq_true, if_false, List.length_cons, h4, h5]
  omega
theorem sh_last (key : ByteArray) (s n : Nat) : lastK ByteArray.empty (shL key s (n + 1)) = key ++ oneB n := by rw [shL_succ, lastK_snoc]; rfl
theorem sh_body (key : ByteArray) (hk : key.size ≤ 30) (s : Nat) : ∀ n, n ≤ 64 → (body (shL key s n)).length = n * ((Vi.enc s).length + 6) + key.size * ((n + 3) / 4)
  | 0, _ => by simp [shL, body, bodyG]
  | n + 1, hn => by
    have ih := sh_body key hk s n (by omega)
    have hb : body (shL key s (n + 1)) = body (shL key s n) ++ rowE (preK n (lastK ByteArray.empty (shL key s n))) (shE key s n) := by
      rw [shL_succ]
      unfold body
      rw [bodyG_app, bodyG, bodyG, List.append_nil, shL_len, Nat.zero_add]
    rw [hb, List.length_append, ih, Nat.succ_mul]
    by_cases h4 : n % 4 = 0
    · have hr := sh_row key hk s n (preK n (lastK ByteArray.empty (shL key s n))) 0 (by unfold preK; rw [if_pos h4]; exact cpK_empty _) (by omega)
      have hm : key.size * ((n + 3) / 4 + 1) = key.size * ((n + 3) / 4) + key.size := Nat.mul_succ _ _
      rw [show (n + 1 + 3) / 4 = (n + 3) / 4 + 1 from by omega, hm]
      omega
    · obtain ⟨m, rfl⟩ : ∃ m, n = m + 1 := ⟨n - 1, by omega⟩
      have hr := sh_row key hk s (m + 1) (preK (m + 1) (lastK ByteArray.empty (shL key s (m + 1)))) key.size (by
        unfold preK; rw [if_neg h4, sh_last]
        unfold cpK
        rw [(sh_key key (m + 1)).1, (sh_key key m).1, cpl_same _ (fun e => by
          have := congrArg UInt8.toNat e
          rw [Vi.toNat_ofNat _ (by omega), Vi.toNat_ofNat _ (by omega)] at this; omega), slen]) (Nat.le_refl _)
      rw [show (m + 1 + 1 + 3) / 4 = (m + 1 + 3) / 4 from by omega]
      omega
theorem sh_enc (key : ByteArray) (hk : key.size ≤ 30) (s n : Nat) (hn : n ≤ 64) : (encB (shL key s n)).length = (encB (shL ByteArray.empty s n)).length + (n + 3) / 4 * key.size := by
  have h1 := sh_body key hk s n hn
  have h2 := sh_body ByteArray.empty (by simp) s n hn
  have t1 := tailB_len (shL key s n)
  have t2 := tailB_len (shL ByteArray.empty s n)
  rw [shL_len] at t1 t2
  unfold encB
  rw [List.length_append, List.length_append, h1, h2, t1, t2]
  rw [Nat.mul_comm ((n + 3) / 4) key.size]
  simp
  omega
theorem shE_empty (s i : Nat) : shE ByteArray.empty s i = ⟨⟨oneB i, s, false⟩, ⟨#[118]⟩⟩ := by
  unfold shE
  have : ByteArray.empty ++ oneB i = oneB i := txt_ext (by rw [(sh_key ByteArray.empty i).1]; rfl)
  rw [this]
theorem own_apart {w w' : World} {base e k n : Nat} {va vb : Value} {xs : List Value} (hb : w.ownsRow base e k vb n xs) (hne : ∀ i, vb.ownBlock = some i → va.ownBlock ≠ some i) (hg : w.grownBy w' va.ownBlock) : w'.ownsRow base e k vb n xs := by
  refine ⟨hb.1, ?_⟩
  rcases hb.2 with h2 | ⟨i, cap, cur, hv, hbb, hh, r⟩
  · exact .inl h2
  · exact .inr ⟨i, cap, cur, hv, hbb, (hg.block i (Array.getElem?_eq_some_iff.1 hh).1 (fun q => hne i (by rw [hv]; rfl) q.symm)).trans hh, r⟩
/-- what holds at the loop's head: two rows, each in a block of its own -/
def ShR (W : World) (key : ByteArray) (s n : Nat) (va vb i : Value) (wr : World) : Prop :=
  ∃ k : Nat, k ≤ n ∧ i = .int .i64 (k : Int) ∧ wr.ownsRow W.heap.size 41 4 va k (ecs (shL key s k)) ∧ wr.ownsRow W.heap.size 41 4 vb k (ecs (shL ByteArray.empty s k)) ∧ (∀ j, vb.ownBlock = some j → va.ownBlock ≠ some j) ∧ Below W.heap.size W wr

set_option maxHeartbeats 3000000 in
theorem blocksShort_walk (key : ByteArray) (m0 s : Nat) (W : World) (hk : key.size ≤ 140737488351232) (h0 : m0 < 256) (h1 : s < 18446744073709551616) :
    Calls Try.prog 6 #[.string key, .int .u8 (m0 : Int), .int .u64 (s : Int)] W fun e W' => e = .returned (.bool true) ∧ Below W.heap.size W W' := by
  obtain ⟨i0, hi, hz0, hz1, hz2⟩ := info_parts entry_info
  go_enter Try.func6, Try.ntmps6
  go_wp2_with fail
  refine (alive8_any W).mono ?_
  rintro e w1 ⟨rfl, hb1⟩
  have H1 := Lib.hid hb1
  clear hb1
  by_cases hkb : 30 < key.size
  · have hki : decide ((30 : Int) < (key.size : Int)) = true := decide_eq_true (by omega)
    go_wp2_with fail
    refine (alive8_any w1).mono ?_
    rintro e w2 ⟨rfl, hb2⟩
    have HF := Lib.hid (H1.out.trans (hb2.mono H1.out.size))
    clear hb2
    go_wp2
    go_ret
    exact ⟨rfl, HF.out⟩
  · have hki : decide ((30 : Int) < (key.size : Int)) = false := decide_eq_false (by omega)
    have hk30 : key.size ≤ 30 := by omega
    obtain ⟨r, hr⟩ : ∃ r, m0 % 64 = r := ⟨_, rfl⟩
    obtain ⟨n, hn⟩ : ∃ n, 1 + r = n := ⟨_, rfl⟩
    have hn6 : 1 ≤ n ∧ n ≤ 64 := by omega
    have e1 : (m0 : Int) % 64 = (r : Int) := by omega
    have e2 : 1 + (r : Int) = (n : Int) := by omega
    have hr6 : (r : Int) ≤ 63 := by omega
    clear hr hn
    go_wp2
    clear e1 e2
    go_loopw [8, 9, 10] (fun va vb i wr => ShR W key s n va vb i wr) (fun _ _ i _ => n - (intOf i).toNat)
    case atStart => exact ⟨0, Nat.zero_le _, rfl, World.ownsRow_nil _ _ _ _, World.ownsRow_nil _ _ _ _, (fun j hj => by cases hj), H1.out⟩
    case round =>
      obtain ⟨k, hkn, rfl, hoa, hob, hne, hb⟩ := hrel
      obtain ⟨Aa, ca, rfl, hna, hca, _⟩ := own_shape hoa
      obtain ⟨Ab, cb, rfl, hnb, hcb, _⟩ := own_shape hob
      have HOa := Lib.hid hoa; have HOb := Lib.hid hob; have HB := Lib.hid hb; have HNe := Lib.hid hne
      have hbs := hb.size
      clear hoa hob hb hne
      by_cases hlt : k < n
      · have hk8 : (100 + (k : Int)) % 256 = 100 + (k : Int) := by omega
        have hk9 : 100 + (k : Int) < 256 := by omega
        have HA : Hid (Below wr.heap.size wr (wr.alloc (.cells #[.int .u8 (100 + (k : Int))] 5))) := (Below.refl _ _).alloc (Nat.le_refl _) _
        have hL := lit_lies wr [UInt8.ofNat (100 + k)]
        have hbvk : bv (UInt8.ofNat (100 + k)) = .int .u8 (100 + (k : Int)) := by rw [bv_ofNat (100 + k) (by omega)]; congr 1
        have hmap : (([UInt8.ofNat (100 + k)] : List UInt8).map bv).toArray = #[.int .u8 (100 + (k : Int))] := by
          rw [List.map_cons, List.map_nil, hbvk]
        have hstr := run_str (P := Try.prog) _ 23 9 5 Try.underlying23 Try.underlying5 Try.underlying9 (l := [UInt8.ofNat (100 + k)]) 1 hL
        rw [hmap] at hstr
        have hstr : (convert 23 9 (.slice (some ⟨wr.heap.size, 0, none⟩) 1 1)).run Try.prog (wr.alloc (.cells #[.int .u8 (100 + (k : Int))] 5)) = .ok (.string (oneB k)) (wr.alloc (.cells #[.int .u8 (100 + (k : Int))] 5)) := hstr
        have hos : (oneB k).size = 1 := rfl
        have hadd : ∀ W, (Op.stringOp .add key (oneB k)).run Try.prog W = .ok (.string (key ++ oneB k)) W := fun W => run_string_add_sum W _ _ (by omega)
        have HEa := Lib.hid (fun w => ent8_v (key ++ oneB k) s w)
        have HEb := Lib.hid (fun w => ent8_v (oneB k) s w)
        obtain ⟨ob, hobq⟩ : ∃ ob, oneB k = ob := ⟨_, rfl⟩
        have HEna : Hid (shE key s k = ⟨⟨key ++ ob, s, false⟩, ⟨#[118]⟩⟩) := by unfold Hid shE; rw [hobq]
        have HEnb : Hid (shE ByteArray.empty s k = ⟨⟨ob, s, false⟩, ⟨#[118]⟩⟩) := by unfold Hid; rw [shE_empty, hobq]
        rw [hobq] at hstr hadd HEb HEa
        clear hL hbvk hmap hos hobq
        go_wp2_with fail
        with_reducible refine (HEa.out _).mono ?_
        rintro e w2 ⟨rfl, hb2⟩
        have hb3 := HA.out.trans (hb2.mono HA.out.size)
        have HOa2 := Lib.hid (own_below HOa.out hb3)
        have HOb2 := Lib.hid (own_below HOb.out hb3)
        have hb4 := HB.out.trans (hb3.mono HB.out.size)
        have HB2 := Lib.hid hb4
        have hbs2 := hb4.size
        have HE3 : Hid (Lies (w2.alloc (.cells #[.string (key ++ ob), .int .u64 (s : Int), .bool false, .string ⟨#[118]⟩] 41)) (w2.heap.size + 1) 4 (some ⟨w2.heap.size, 0, none⟩) 1 (ecs [shE key s k])) := by unfold Hid; rw [HEna.out]; exact en_lies w2 ⟨⟨key ++ ob, s, false⟩, ⟨#[118]⟩⟩
        clear hstr hb2 hb3 hb4 HA HB HOa HOb hk8 hadd HEa
        unfold maxLen at hca hcb
        go_wp2_with (at_builtin; refine wpList_app _ rfl (.tmp 39) (.tmp 45) 22 rfl W.heap.size 41 i0 _ 4 48 Try.underlying22 hi hz0 hz1 hz2 rfl (by decide) (.slice Aa k ca) k (ecs (shL key s k)) rfl (HOa2.out.alloc _) (w2.heap.size + 1) (some ⟨w2.heap.size, 0, none⟩) 1 1 (ecs [shE key s k]) rfl HE3.out (ecs_one _) (by unfold maxLen; omega) (by omega) (by simp; omega) ?_)
        intro v5 w5 ho5 hg5 hat5
        have hupA : Below W.heap.size W (w2.alloc (.cells #[.string (key ++ ob), .int .u64 (s : Int), .bool false, .string ⟨#[118]⟩] 41)) := HB2.out.alloc HB2.out.size _
        have hbA : Below w2.heap.size w2 (w2.alloc (.cells #[.string (key ++ ob), .int .u64 (s : Int), .bool false, .string ⟨#[118]⟩] 41)) := (Below.refl _ _).alloc (Nat.le_refl _) _
        have hob5 := own_apart (own_below HOb2.out hbA) HNe.out hg5
        have hne5 : ∀ j, (Value.slice Ab k cb).ownBlock = some j → v5.ownBlock ≠ some j := by
          intro j hj
          rcases hat5 with h | h
          · rw [h]; exact HNe.out j hj
          · rw [h]
            intro q
            injection q with q
            have := (HOb2.out.lt j hj).2
            omega
        have hb5 : Below W.heap.size W w5 := hupA.grown hg5 hupA.size (fun j hj => (HOa2.out.lt j hj).1)
        have ho5' : w5.ownsRow W.heap.size 41 4 v5 (k + 1) (ecs (shL key s (k + 1))) := by
          rw [shL_succ, show ecs (shL key s k ++ [shE key s k]) = ecs (shL key s k) ++ ecs [shE key s k] from by simp [ecs]]; exact ho5
        obtain ⟨A5, c5, rfl, _⟩ := own_shape ho5
        have HO5 := Lib.hid ho5'; have HOb5 := Lib.hid hob5; have HNe5 := Lib.hid hne5; have HB5 := Lib.hid hb5
        clear ho5 ho5' hob5 hne5 hb5 hg5 hat5 hupA hbA HE3 HOa2 HOb2 HNe HB2
        go_wp2_with fail
        with_reducible refine (HEb.out _).mono ?_
        rintro e w6 ⟨rfl, hb6⟩
        have HO6 := Lib.hid (own_below HO5.out hb6)
        have HOb6 := Lib.hid (own_below HOb5.out hb6)
        have HB6 := Lib.hid (HB5.out.trans (hb6.mono HB5.out.size))
        have hbs6 := HB6.out.size
        have HE6 : Hid (Lies (w6.alloc (.cells #[.string ob, .int .u64 (s : Int), .bool false, .string ⟨#[118]⟩] 41)) (w6.heap.size + 1) 4 (some ⟨w6.heap.size, 0, none⟩) 1 (ecs [shE ByteArray.empty s k])) := by unfold Hid; rw [HEnb.out]; exact en_lies w6 ⟨⟨ob, s, false⟩, ⟨#[118]⟩⟩
        clear hb6 HO5 HOb5 HB5 HEb
        go_wp2_with (at_builtin; refine wpList_app _ rfl (.tmp 47) (.tmp 51) 22 rfl W.heap.size 41 i0 _ 4 48 Try.underlying22 hi hz0 hz1 hz2 rfl (by decide) (.slice Ab k cb) k (ecs (shL ByteArray.empty s k)) rfl (HOb6.out.alloc _) (w6.heap.size + 1) (some ⟨w6.heap.size, 0, none⟩) 1 1 (ecs [shE ByteArray.empty s k]) rfl HE6.out (ecs_one _) (by unfold maxLen; omega) (by omega) (by simp; omega) ?_)
        intro v7 w7 ho7 hg7 hat7
        have HR7 : Hid (ShR W key s n (.slice A5 (k + 1) c5) v7 (.int .i64 ((k + 1 : Nat) : Int)) w7) := by
          have hupA : Below W.heap.size W (w6.alloc (.cells #[.string ob, .int .u64 (s : Int), .bool false, .string ⟨#[118]⟩] 41)) := HB6.out.alloc HB6.out.size _
          have hbA : Below w6.heap.size w6 (w6.alloc (.cells #[.string ob, .int .u64 (s : Int), .bool false, .string ⟨#[118]⟩] 41)) := (Below.refl _ _).alloc (Nat.le_refl _) _
          refine ⟨k + 1, hlt, rfl, own_apart (own_below HO6.out hbA) (fun j hj q => HNe5.out j q hj) hg7, ?_, ?_, hupA.grown hg7 hupA.size (fun j hj => (HOb6.out.lt j hj).1)⟩
          · rw [shL_succ, show ecs (shL ByteArray.empty s k ++ [shE ByteArray.empty s k]) = ecs (shL ByteArray.empty s k) ++ ecs [shE ByteArray.empty s k] from by simp [ecs]]; exact ho7
          · intro j hj q
            rcases hat7 with h | h
            · rw [h] at hj; exact HNe5.out j hj q
            · rw [h] at hj
              injection hj with hj
              have := (HO6.out.lt j q).2
              omega
        obtain ⟨A7, c7, rfl, _⟩ := own_shape ho7
        clear ho7 hg7 hat7 HE6 HO6 HOb6 HNe5 HB6
        go_wp2
        go_roundw
        case rel => exact HR7.out
        case measure => simp [intOf]; omega
      · obtain rfl : k = n := by omega
        have hEa : EL wr wr.heap.size Aa k ca (shL key s k) := ⟨Lies.of_own HOa.out, Nat.le_refl _, hna, hca, sh_sz key hk30 s k⟩
        have hEb : EL wr wr.heap.size Ab k cb (shL ByteArray.empty s k) := ⟨Lies.of_own HOb.out, Nat.le_refl _, hnb, hcb, sh_sz ByteArray.empty (by simp) s k⟩
        have HEb := Lib.hid hEb
        have HPa := Lib.hid (bput_any (shL key s k) (sh_seqs key s k h1) Aa k ca wr.heap.size wr hEa)
        have HOka := Lib.hid (sh_ok key hk30 s k hn6.1 hn6.2)
        have HOkb := Lib.hid (sh_ok ByteArray.empty (by simp) s k hn6.1 hn6.2)
        have HLn := Lib.hid (sh_enc key hk30 s k hn6.2)
        have HLa := Lib.hid (encB_len _ HOka.out)
        have HLb := Lib.hid (encB_len _ HOkb.out)
        have HSb := Lib.hid (sh_seqs ByteArray.empty s k h1)
        clear hEa hEb
        go_wp2_with fail
        refine HPa.out.mono ?_
        rintro e w3 ⟨hb3, p1, _⟩
        obtain ⟨A3, c3, rfl, _⟩ := p1 HOka.out
        have H3 := Lib.hid (HB.out.trans (hb3.mono HB.out.size))
        have HPb := Lib.hid (bput_any (shL ByteArray.empty s k) HSb.out Ab k cb wr.heap.size w3 (HEb.out.below hb3))
        clear hb3 p1 HPa HEb
        go_wp2_with fail
        refine HPb.out.mono ?_
        rintro e w4 ⟨hb4, p1, _⟩
        obtain ⟨A4, c4, rfl, _⟩ := p1 HOkb.out
        have H4 := Lib.hid (H3.out.trans (hb4.mono H3.out.size))
        have hln := HLn.out
        have hla := HLa.out.2
        have hlb := HLb.out.2
        obtain ⟨la, e1⟩ : ∃ q, (encB (shL key s k)).length = q := ⟨_, rfl⟩
        obtain ⟨lb, e2⟩ : ∃ q, (encB (shL ByteArray.empty s k)).length = q := ⟨_, rfl⟩
        obtain ⟨d, e3⟩ : ∃ q, (k + 3) / 4 = q := ⟨_, rfl⟩
        obtain ⟨K, e4⟩ : ∃ q, key.size = q := ⟨_, rfl⟩
        obtain ⟨t, e5⟩ : ∃ q, d * K = q := ⟨_, rfl⟩
        rw [e1] at hln hla ⊢
        rw [e2] at hln hlb ⊢
        rw [e3, e4, e5] at hln
        have f1 : ((k : Int) + 3) / 4 = (d : Int) := by omega
        have f2 : (key.size : Int) = (K : Int) := by omega
        have f3 : (d : Int) * (K : Int) = (t : Int) := by rw [← e5]; simp
        have f4 : ((la : Int) == (lb : Int) + (t : Int)) = true := by rw [beq_iff_eq]; omega
        have f5 : (lb : Int) + (t : Int) ≤ 22000 := by omega
        have f6 : (d : Int) ≤ 100 := by omega
        have f7 : (K : Int) ≤ 30 := by omega
        have f8 : (t : Int) ≤ 22000 := by omega
        clear hb4 p1 HPb e1 e2 e3 e4 e5 hln
        go_wp2
        go_ret
        exact ⟨rfl, H4.out⟩
end Go.Proofs.Ytiodiiedgmobjaa
