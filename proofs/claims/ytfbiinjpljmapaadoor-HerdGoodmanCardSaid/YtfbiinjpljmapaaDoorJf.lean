/-
  Herd's laws: made.
-/
import Derived.Test.YtfbiinjpljmapaaDoorHm
namespace Go.Proofs.YtfbiinjpljmapaaDoor
open Go.RowKit Go.Deep

theorem of64 (a : Nat) (h : a < 18446744073709551616) : (BitVec.ofInt 64 (a : Int)).toNat = a := by
  rw [BitVec.toNat_ofInt]
  omega
theorem and1_64 (s : Nat) (hs : s < 18446744073709551616) : bits .and .u64 (s : Int) 1 = ((s % 2 : Nat) : Int) := by
  show IntKind.u64.wrap ((BitVec.ofInt 64 (s : Int) &&& BitVec.ofInt 64 1).toNat : Int) = _
  rw [BitVec.toNat_and, of64 s hs, show (BitVec.ofInt 64 1).toNat = 1 from rfl, Nat.and_one_is_mod]
  exact IntWalk.u64_in _ (by omega)
theorem own_zeroP (W : World) (base : Nat) (t : TypeId) (s : Nat) (hb : base ≤ W.heap.size) : (W.alloc (.cells #[] t)).ownsRow base t s (.slice (some ⟨W.heap.size, 0, none⟩) 0 0) 0 [] := by
  refine ⟨by simp, .inr ⟨W.heap.size, 0, #[], rfl, hb, ?_, Nat.le_refl _, Nat.zero_le _, by simp, by simp⟩⟩
  rw [blk_alloc_new]
/-- how many pairs i things have -/
def triM : Nat → Nat
  | 0 => 0
  | k + 1 => triM k + k
theorem triM_le {k : Nat} (h : k ≤ 9) : triM k ≤ 36 := by
  have h2 : (List.range 10).all (fun k => decide (triM k ≤ 36)) = true := by decide +kernel
  rw [List.all_eq_true] at h2
  simpa using h2 k (by simp; omega)
/-- the pairs of horse i with those below m -/
def madR (s i m : Nat) : List (Nat × Nat) := ((List.range m).filter fun j => s.testBit (triM i + j)).map fun j => (i, j)
theorem madR_succ (s i m : Nat) : madR s i (m + 1) = madR s i m ++ (if s.testBit (triM i + m) then [(i, m)] else []) := by
  unfold madR
  rw [List.range_succ, List.filter_append, List.map_append]
  congr 1
  by_cases h : s.testBit (triM i + m) <;> simp [h]
theorem madR_len (s i m : Nat) : (madR s i m).length ≤ m := by
  unfold madR
  rw [List.length_map]
  exact Nat.le_trans (List.length_filter_le _ _) (by simp)
/-- the pairs of the herd that is derived from s: those of the first k horses -/
def madL (s k : Nat) : List (Nat × Nat) := (List.range k).flatMap fun i => madR s i i
theorem madL_succ (s k : Nat) : madL s (k + 1) = madL s k ++ madR s k k := by
  unfold madL
  rw [List.range_succ, List.flatMap_append]
  simp
theorem madL_len (s k : Nat) : (madL s k).length ≤ triM k := by
  induction k with
  | zero => exact Nat.le_refl _
  | succ k ih =>
    rw [madL_succ, List.length_append]
    have := madR_len s k k
    simp only [triM]
    omega
def MadePost (w : World) (n s : Nat) (e : Ending) (w' : World) : Prop := ∃ v, e = .returned (.tuple #[.int .i64 ((n % 9 + 1 : Nat) : Int), v]) ∧ PrsAt w' v (madL s (n % 9 + 1)) ∧ Kept w w'
set_option maxRecDepth 100000 in
set_option maxHeartbeats 4000000 in
theorem made_any (w : World) (n s : Nat) (hn : n < 256) (hs : s < 18446744073709551616) :
    Calls Tryd.prog 23 #[.int .u8 n, .int .u64 s] w (MadePost w n s) := by
  obtain ⟨ip, gi, gz0, gz1, gz2⟩ := info_parts Tryd.infoPair
  obtain ⟨x, HX⟩ : ∃ x : Nat, Hid (x = n % 9) := ⟨_, rfl⟩
  have hx : x < 9 := by rw [HX.out]; exact Nat.mod_lt _ (by omega)
  have ex : Int.tmod (n : Int) 9 = (x : Int) := by rw [HX.out]; exact (Int.ofNat_tmod n 9).symm
  have ex2 : (n : Int) % 9 = (x : Int) := by rw [HX.out]; exact (Int.natCast_emod n 9).symm
  obtain ⟨k, HK⟩ : ∃ k : Nat, Hid (k = n % 9 + 1) := ⟨_, rfl⟩
  have hk1 : k = x + 1 := by rw [HK.out, HX.out]
  have ek : (x : Int) + 1 = (k : Int) := by omega
  have hk9 : k ≤ 9 := by omega
  unfold MadePost
  rw [← HK.out]
  clear HK HX hk1
  go_enter Tryd.func23, Tryd.ntmps23
  go_wp2_with fail
  go_loopg [7, 8, 9] k (fun g s7 s8 s9 wr => ∃ i : Nat, i ≤ k ∧ g = k - i ∧ s9 = .int .i64 i ∧ s8 = .int .i64 (triM i) ∧ Kept w wr ∧ wr.ownsRow w.heap.size 59 2 s7 (madL s i).length (prs (madL s i)))
  case atStart => exact ⟨0, Nat.zero_le _, rfl, by first | rfl | go_num, by first | rfl | go_num, (Kept.refl w).alloc _, own_zeroP w w.heap.size 59 2 (Nat.le_refl _)⟩
  case round =>
    obtain ⟨i, hi, rfl, rfl, rfl, hK, hO⟩ := hrel
    by_cases hik : i < k
    · have s1 : (i : Int) < (k : Int) := by omega
      have hnext := Lib.hid (madL_succ s i)
      have hlen := madL_len s i
      have ht := triM_le (k := i) (by omega)
      have ht2 : Hid (triM (i + 1) = triM i + i) := rfl
      obtain ⟨T, HT⟩ : ∃ t, Hid (t = triM i) := ⟨_, rfl⟩
      have hms := Lib.hid (madR_succ s i)
      have hml := Lib.hid (madR_len s i)
      rw [← HT.out] at hms ht ht2 hlen
      obtain ⟨l, HL⟩ : ∃ l, Hid (l = madL s i) := ⟨_, rfl⟩
      rw [← HL.out] at hO hnext hlen
      obtain ⟨va, vcap, rfl⟩ := own_shape hO
      have hO0 : wr.ownsRow w.heap.size 59 2 (.slice va l.length vcap) (l ++ madR s i 0).length (prs (l ++ madR s i 0)) := by rw [show madR s i 0 = [] from rfl, List.append_nil]; exact hO
      rw [← HT.out]
      clear hO HL
      go_wp2_with fail
      go_loopg [7, 8, 10] i (fun g s7 s8 s10 wi => ∃ j : Nat, j ≤ i ∧ g = i - j ∧ s10 = .int .i64 j ∧ s8 = .int .i64 ((T + j : Nat) : Int) ∧ Kept w wi ∧ wi.ownsRow w.heap.size 59 2 s7 (l ++ madR s i j).length (prs (l ++ madR s i j)))
      case atStart => exact ⟨0, Nat.zero_le _, rfl, by first | rfl | go_num, by first | rfl | go_num, hK, hO0⟩
      case round =>
        clear hK hO0
        obtain ⟨j, hj, rfl, rfl, rfl, hK, hO⟩ := hrel
        have hsz := hK.size
        by_cases hji : j < i
        · have s2 : (j : Int) < (i : Int) := by omega
          have hml2 := hml.out j
          have hll : (l ++ madR s i j).length ≤ 50 := by rw [List.length_append]; omega
          have hstep := Lib.hid (hms.out j)
          have hb := bit_div s (T + j)
          have hq : s / 2 ^ (T + j) < 18446744073709551616 := Nat.lt_of_le_of_lt (Nat.div_le_self _ _) hs
          have e1 := and1_64 (s / 2 ^ (T + j)) hq
          obtain ⟨P, HP⟩ : ∃ p, Hid (p = T + j) := ⟨_, rfl⟩
          have hP : P ≤ 45 := by rw [HP.out]; omega
          have hP2 : (P : Int) + 1 = ((T + (j + 1) : Nat) : Int) := by rw [HP.out]; omega
          rw [← HP.out] at hb hq e1 hstep ⊢
          have e0 : ((s : Int) / 2 ^ P) = ((s / 2 ^ P : Nat) : Int) := by simp
          rw [← e0] at e1
          obtain ⟨tb, HTB⟩ : ∃ tb, Hid (tb = s.testBit P) := ⟨_, rfl⟩
          rw [← HTB.out] at hb hstep
          obtain ⟨Q, HQ⟩ : ∃ q, Hid (q = s / 2 ^ P % 2) := ⟨_, rfl⟩
          rw [← HQ.out] at hb e1
          have e2 : ((Q : Int) == 1) = tb := by rw [hb]; exact nat_beq Q 1
          clear HQ hb HTB HP e0 hq
          obtain ⟨pl, HPL⟩ : ∃ pl, Hid (pl = l ++ madR s i j) := ⟨_, rfl⟩
          rw [← HPL.out] at hO hll
          obtain ⟨vb, vcap2, rfl⟩ := own_shape hO
          cases tb with
          | false =>
            have hN : Hid (l ++ madR s i (j + 1) = pl) := by show _ = _; rw [hstep.out, HPL.out]; simp
            go_wp2_with fail
            go_roundg (i - (j + 1))
            case measure => omega
            case rel => exact ⟨j + 1, by omega, rfl, by first | rfl | go_num, by first | rfl | go_num | (rw [hP2]), hK, by rw [hN.out]; exact hO⟩
          | true =>
            have hN : Hid (l ++ madR s i (j + 1) = pl ++ [(i, j)]) := by show _ = _; rw [hstep.out, HPL.out]; simp
            go_wp2_with (first | (at_builtin; refine wpList_append_own _ rfl _ _ 22 rfl w.heap.size 59 ip (.agg #[.int .i64 0, .int .i64 0]) 2 16 Tryd.underlying22 gi gz0 gz1 gz2 rfl (by decide) _ _ _ rfl (hO.alloc _) ⟨_, 0, none⟩ 1 1 [.int .i64 (i : Int), .int .i64 (j : Int)] rfl rfl ?c1 ?c2 ?c3 ?c4 ?c5 ?_))
            case c2 => simp [Value.oneCell']
            case c3 => unfold maxLen; omega
            case c4 => omega
            case c5 => first | omega | (simp; omega)
            intro v' w2 hO3 hgr _
            have hX2 := grew_X hgr (hO.alloc (.cells #[.int .i64 (i : Int), .int .i64 (j : Int)] 59))
            have hK2 : Kept w w2 := (hK.alloc _).step hX2 (fun i hi => hi)
            have hO5 : w2.ownsRow w.heap.size 59 2 v' (l ++ madR s i (j + 1)).length (prs (l ++ madR s i (j + 1))) := by
              rw [hN.out, prs_snoc]
              simpa using hO3
            clear hO3 hX2 hgr hK hO
            go_wp2_with fail
            go_roundg (i - (j + 1))
            case measure => omega
            case rel => exact ⟨j + 1, by omega, rfl, by first | rfl | go_num, by first | rfl | go_num | (rw [hP2]), hK2, hO5⟩
        · obtain rfl : j = i := by omega
          rw [← hnext.out] at hO
          rw [← ht2.out]
          go_wp2_with fail
          go_roundg (k - (j + 1))
          case measure => omega
          case rel => exact ⟨j + 1, by omega, rfl, by first | rfl | go_num, rfl, hK, hO⟩
    · obtain rfl : i = k := by omega
      go_wp2_with fail
      go_ret2
      exact ⟨_, rfl, PrsAt.of_own hO, hK⟩
end Go.Proofs.YtfbiinjpljmapaaDoor
