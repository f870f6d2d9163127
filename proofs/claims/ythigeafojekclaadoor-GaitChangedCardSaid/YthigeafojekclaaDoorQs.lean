/-
  The references' Same: are two lists of numbers, or of strings, the same?
-/
import Derived.Test.YthigeafojekclaaDoorGi
namespace Go.Proofs.YthigeafojekclaaDoor
open Go.RowKit Go.Deep

set_option maxHeartbeats 1000000 in
theorem before_any (w : World) (va vb : Value) (na nb : Nat) (fa fb : Nat → Int) (ha : IntsAt w va na fa) (hb : IntsAt w vb nb fb) (hna : na ≤ 1000000) (hnb : nb ≤ 1000000) :
    Calls Tryd.prog 29 #[va, vb] w fun e w' => e = .returned (.bool (before na fa nb fb)) ∧ Quiet w w' := by
  obtain ⟨a, b, o, cap, rfl, ha, hc⟩ := ha
  obtain ⟨a2, b2, o2, cap2, rfl, ha2, hc2⟩ := hb
  unfold before
  go_enter Tryd.func29, Tryd.ntmps29
  go_wp2
  go_loopg [5] na (fun g i wr => ∃ k : Nat, k ≤ na ∧ k ≤ nb ∧ g = na - k ∧ i = .int .i64 k ∧ Hid (bef fa fb na nb (min na nb) 0 = bef fa fb na nb (min na nb - k) k) ∧ Quiet w wr)
  case atStart => exact ⟨0, Nat.zero_le _, Nat.zero_le _, rfl, rfl, rfl, Quiet.refl _⟩
  case round =>
    obtain ⟨k, hk, hk2, rfl, rfl, hH, hq⟩ := hrel
    by_cases hlt : k < na
    · by_cases hlt2 : k < nb
      · obtain rfl := ha (by omega)
        obtain rfl := ha2 (by omega)
        have h1 := hq.kept.cellSome (hc k hlt)
        have h2 := hq.kept.cellSome (hc2 k hlt2)
        have hs : bef fa fb na nb (min na nb - k) k = (if fa k = fb k then bef fa fb na nb (min na nb - (k + 1)) (k + 1) else decide (fa k < fb k)) := by
          rw [show min na nb - k = (min na nb - (k + 1)) + 1 by omega]; rfl
        have HS := Lib.hid hs
        clear hc ha hc2 ha2 hs
        go_wp2
        cases e1 : (fa k != fb k)
        · go_quiet (fail)
          go_wp2
          go_roundg (na - (k+1))
          case measure => omega
          case rel => exact ⟨k + 1, by omega, by omega, rfl, by go_num, by (show _ = _; rw [hH.out, HS.out, if_pos (by simpa using e1)]), by repeat (first | exact hq | apply Quiet.drewN | apply Quiet.drew)⟩
        · go_quiet (fail)
          go_wp2
          go_quiet (fail)
          go_wp2
          go_ret
          exact ⟨ret_bool (by rw [hH.out, HS.out, if_neg (by simpa using e1)]), by repeat (first | exact hq | apply Quiet.drewN | apply Quiet.drew)⟩
      · go_wp2
        go_ret
        exact ⟨ret_bool (by rw [hH.out, show min na nb - k = 0 by omega]; simp [bef]), hq⟩
    · go_wp2
      go_ret
      exact ⟨ret_bool (by rw [hH.out, show min na nb - k = 0 by omega]; simp [bef]), hq⟩

theorem same_any (w : World) (va vb : Value) (na nb : Nat) (fa fb : Nat → Int) (ha : IntsAt w va na fa) (hb : IntsAt w vb nb fb) (hna : na ≤ 1000000) (hnb : nb ≤ 1000000) :
    Calls Tryd.prog 11 #[va, vb] w fun e w' => e = .returned (.bool (same na fa nb fb)) ∧ Quiet w w' := by
  rw [← before_same]
  go_enter Tryd.func11, Tryd.ntmps11
  go_wp2_with fail
  refine (before_any _ _ _ na nb fa fb ha hb hna hnb).mono ?_
  rintro e w1 ⟨rfl, ⟨nq, rfl⟩⟩
  cases e1 : before na fa nb fb
  · go_wp2_with fail
    refine (before_any _ _ _ nb na fb fa (hb.kept ((Kept.refl _).drewN nq)) (ha.kept ((Kept.refl _).drewN nq)) hnb hna).mono ?_
    rintro e w2 ⟨rfl, ⟨nq2, rfl⟩⟩
    go_wp2
    go_ret
    exact ⟨ret_bool (by simp [e1]), nq + nq2, by simp⟩
  · go_wp2_with fail
    go_wp2
    go_ret
    exact ⟨ret_bool (by simp [e1]), nq, rfl⟩

theorem toList_inj {a b : ByteArray} (h : a.toList = b.toList) : a = b := by
  rw [ByteArray.toList_eq, ByteArray.toList_eq] at h
  obtain ⟨⟨x⟩⟩ := a
  obtain ⟨⟨y⟩⟩ := b
  simp at h
  rw [h]
theorem beq_yes {a b : ByteArray} (h : a = b) : (a.toList == b.toList) = true := by rw [h]; simp
theorem beq_no {a b : ByteArray} (h : ¬ a = b) : (a.toList == b.toList) = false := by
  cases e : (a.toList == b.toList)
  · rfl
  · exact absurd (toList_inj (by simpa using e)) h
def sameS (n : Nat) (S : Nat → ByteArray) (m : Nat) (T : Nat → ByteArray) : Bool := decide (n = m) && allN (fun i => decide (S i = T i)) n
set_option maxRecDepth 100000 in
set_option maxHeartbeats 4000000 in
theorem sameS_any (w : World) (va vb : Value) (n m : Nat) (S T : Nat → ByteArray) (ha : StrsAt w va n S) (hb : StrsAt w vb m T) (hn : n ≤ 1000000) (hm : m ≤ 1000000) :
    Calls Tryd.prog 28 #[va, vb] w fun e w' => e = .returned (.bool (sameS n S m T)) ∧ Quiet w w' := by
  obtain ⟨a, b, o, cap, rfl, ha, hc⟩ := ha
  obtain ⟨a2, b2, o2, cap2, rfl, ha2, hc2⟩ := hb
  have HC := Lib.hid hc
  have HC2 := Lib.hid hc2
  clear hc hc2
  by_cases h1 : n = m
  · subst h1
    have e1 : ((n : Int) != (n : Int)) = false := by simp
    have hs : Hid (sameS n S n T = allN (fun i => decide (S i = T i)) n) := by show _ = _; simp [sameS]
    go_enter Tryd.func28, Tryd.ntmps28
    go_wp2_with fail
    go_loopg [5] n (fun g s5 wr => ∃ i : Nat, i ≤ n ∧ g = n - i ∧ s5 = .int .i64 i ∧ Quiet w wr ∧ Hid (allN (fun i => decide (S i = T i)) i = true))
    case atStart => exact ⟨0, Nat.zero_le _, rfl, rfl, Quiet.refl _, rfl⟩
    case round =>
      obtain ⟨i, hi, rfl, rfl, hQ, hA⟩ := hrel
      by_cases hlt : i < n
      · obtain rfl := ha (by omega)
        obtain rfl := ha2 (by omega)
        have t0 := hQ.kept.cellSome (HC.out i hlt)
        have t1 := hQ.kept.cellSome (HC2.out i hlt)
        have s2 : (i : Int) < (n : Int) := by omega
        have s3 : (0 : Int) ≤ (i : Int) := by omega
        by_cases h2 : S i = T i
        · have hA2 : Hid (allN (fun i => decide (S i = T i)) (i + 1) = true) := allN_step hA.out (decide_eq_true h2)
          rw [← h2] at t1
          obtain ⟨x, HX⟩ : ∃ x, Hid (x = S i) := ⟨_, rfl⟩
          rw [← HX.out] at t0 t1
          clear hA h2 HX
          go_wp2_with fail
          go_quiet (fail)
          go_wp2_with fail
          go_roundg (n - (i + 1))
          case measure => omega
          case rel => exact ⟨i + 1, by omega, rfl, by first | rfl | go_num, hQ.drewN _, hA2.out⟩
        · have hno : Hid (sameS n S n T = false) := by
            show _ = _
            rw [hs.out]
            exact allN_false hlt (decide_eq_false h2)
          have e2 := beq_no h2
          generalize S i = x at *
          generalize T i = y at *
          clear hA h2
          go_wp2_with fail
          go_quiet (fail)
          go_wp2_with fail
          go_ret
          exact ⟨ret_bool hno.out.symm, hQ.drewN _⟩
      · obtain rfl : i = n := by omega
        have hyes : Hid (sameS i S i T = true) := by show _ = _; rw [hs.out]; exact hA.out
        go_wp2_with fail
        go_ret
        exact ⟨ret_bool hyes.out.symm, hQ⟩
  · have e1 : ((n : Int) != (m : Int)) = true := by simp; omega
    have hno : Hid (sameS n S m T = false) := by show _ = _; simp [sameS, h1]
    clear h1
    go_enter Tryd.func28, Tryd.ntmps28
    go_wp2_with fail
    go_ret
    exact ⟨ret_bool hno.out.symm, Quiet.refl _⟩
end Go.Proofs.YthigeafojekclaaDoor
