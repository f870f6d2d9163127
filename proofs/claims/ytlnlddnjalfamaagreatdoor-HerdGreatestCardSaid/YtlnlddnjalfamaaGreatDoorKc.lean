/-
  The reference's in, Herd.
-/
import Derived.Test.YtlnlddnjalfamaaGreatDoorHe
import Derived.BigQuiet
namespace Go.Proofs.YtlnlddnjalfamaaGreatDoor
open Go.RowKit Go.Deep

set_option maxRecDepth 100000 in
theorem refin_any (w : World) (v a b : Int) : Calls Tryz.prog 48 #[.int .i64 v, .int .i64 a, .int .i64 b] w fun e w' => e = .returned (.bool (decide (a ≤ v) && decide (v ≤ b))) ∧ Quiet w w' := by
  by_cases h : a ≤ v
  · have h2 : decide (a ≤ v) = true := decide_eq_true h
    have h3 : v ≥ a := h
    by_cases k : v ≤ b
    · go_enter Tryz.func48, Tryz.ntmps48
      go_wp2_with fail
      go_ret
      exact ⟨ret_bool (by simp [h, k]), (by repeat (first | assumption | exact Quiet.refl _ | apply Quiet.drewN | apply Quiet.drew))⟩
    · go_enter Tryz.func48, Tryz.ntmps48
      go_wp2_with fail
      go_ret
      exact ⟨ret_bool (by simp [k]), (by repeat (first | assumption | exact Quiet.refl _ | apply Quiet.drewN | apply Quiet.drew))⟩
  · have h3 : ¬ v ≥ a := h
    go_enter Tryz.func48, Tryz.ntmps48
    go_wp2_with fail
    go_ret
    exact ⟨ret_bool (by simp; omega), (by repeat (first | assumption | exact Quiet.refl _ | apply Quiet.drewN | apply Quiet.drew))⟩
/-- a pair that the reference takes, q being the greatest number -/
def pB (q : Int) (A B : Nat → Int) (i : Nat) : Bool := ((decide (0 ≤ A i) && decide (A i ≤ q)) && (decide (0 ≤ B i) && decide (B i ≤ q))) && !(A i == B i)
theorem pB_good (n : Int) (A B : Nat → Int) (m : Nat) (hw : 1 ≤ n → IntKind.i64.wrap (n - 1) = n - 1) : (allN (pB (IntKind.i64.wrap (n - 1)) A B) m && ((decide (1 ≤ n) && decide (n ≤ 9)) && decide (m ≤ 100))) = goodH n A B m := by
  unfold goodH
  by_cases h : 1 ≤ n
  · have e : ∀ i, pB (IntKind.i64.wrap (n - 1)) A B i = pairB n A B i := fun i => by
      unfold pB pairB
      rw [hw h, Bool.eq_iff_iff]
      simp
      omega
    have e2 : allN (pB (IntKind.i64.wrap (n - 1)) A B) m = allN (pairB n A B) m := by
      congr 1
      funext i
      exact e i
    rw [e2]
    cases allN (pairB n A B) m <;> simp
  · simp [h]
set_option maxRecDepth 100000 in
set_option maxHeartbeats 8000000 in
theorem refHerd_any (w : World) (n : Int) (hn : -9223372036854775808 ≤ n ∧ n ≤ 9223372036854775807) (v : Value) (m : Nat) (A B : Nat → Int) (hP : PairsAt w v m A B) (hm : m ≤ 1000000) :
    Calls Tryz.prog 13 #[.int .i64 n, v] w fun e w' => e = .returned (.bool (goodH n A B m)) ∧ Quiet w w' := by
  have hgd := Lib.hid (pB_good n A B m (fun h => IntWalk.i64_in _ (by omega)))
  obtain ⟨q, HQ⟩ : ∃ q, Hid (q = IntKind.i64.wrap (n - 1)) := ⟨_, rfl⟩
  have hq : IntKind.i64.wrap (n - 1) = q := HQ.out.symm
  rw [← HQ.out] at hgd
  clear HQ
  obtain ⟨gb, HGB⟩ : ∃ gb, Hid (gb = goodH n A B m) := ⟨_, rfl⟩
  rw [← HGB.out] at hgd ⊢
  clear HGB
  obtain ⟨a, b, o, cap, rfl, ha, hc⟩ := hP
  have HC := Lib.hid hc
  have IA := Lib.hid (fun W x => refin_any W x 0 q)
  have IN := Lib.hid (fun W => refin_any W n 1 9)
  clear hc
  go_enter Tryz.func13, Tryz.ntmps13
  go_wp2_with fail
  go_loopg [5] m (fun t s5 wr => ∃ j : Nat, j ≤ m ∧ t = m - j ∧ s5 = .int .i64 j ∧ Quiet w wr ∧ Hid (allN (pB q A B) j = true))
  case atStart => exact ⟨0, Nat.zero_le _, rfl, by first | rfl | go_num, Quiet.refl _, rfl⟩
  case round =>
    obtain ⟨j, hj, rfl, rfl, hQ, hB⟩ := hrel
    by_cases hlt : j < m
    · obtain rfl := ha (by omega)
      obtain ⟨c0, c1⟩ := HC.out j hlt
      have t0 := hQ.kept.cellSome c0
      have t1 := hQ.kept.cellSome c1
      have s1 : (j : Int) < (m : Int) := by omega
      have s2 : (0 : Int) ≤ (j : Int) := by omega
      have hpb : Hid (pB q A B j = (((decide (0 ≤ A j) && decide (A j ≤ q)) && (decide (0 ≤ B j) && decide (B j ≤ q))) && !(A j == B j))) := rfl
      have hno : Hid (pB q A B j = false → gb = false) := fun h => by
        rw [← hgd.out, allN_false hlt h, Bool.false_and]
      have hyes : Hid (pB q A B j = true → allN (pB q A B) (j + 1) = true) := fun h => allN_step hB.out h
      obtain ⟨pb, HPB⟩ : ∃ x, Hid (x = pB q A B j) := ⟨_, rfl⟩
      rw [← HPB.out] at hpb hno hyes
      obtain ⟨x, HX⟩ : ∃ x, Hid (x = A j) := ⟨_, rfl⟩
      obtain ⟨y, HY⟩ : ∃ x, Hid (x = B j) := ⟨_, rfl⟩
      rw [← HX.out] at t0 hpb
      rw [← HY.out] at t1 hpb
      have IX := Lib.hid (fun W z bz (h : Hid (bz = (decide (0 ≤ z) && decide (z ≤ q)))) => show Calls Tryz.prog 48 #[.int .i64 z, .int .i64 0, .int .i64 q] W fun e w' => e = .returned (.bool bz) ∧ Quiet W w' by
        rw [h.out]
        exact IA.out W z)
      obtain ⟨bx, HBX⟩ : ∃ z, Hid (z = (decide (0 ≤ x) && decide (x ≤ q))) := ⟨_, rfl⟩
      rw [← HBX.out] at hpb
      obtain ⟨bY, HBY⟩ : ∃ z, Hid (z = (decide (0 ≤ y) && decide (y ≤ q))) := ⟨_, rfl⟩
      rw [← HBY.out] at hpb
      clear c0 c1 HX HY HPB hB IA
      cases bx with
      | false =>
        have hg0 := hno.out (by rw [hpb.out]; rfl)
        subst hg0
        clear hno hyes hpb
        go_wp2_with fail
        go_quiet ((go_at_call 48; exact quietQ (IX.out _ _ _ (by first | exact HBX | exact HBY))))
        go_wp2_with fail
        go_ret
        exact ⟨rfl, (by repeat (first | assumption | exact Quiet.refl _ | apply Quiet.drewN | apply Quiet.drew))⟩
      | true =>
        cases bY with
        | false =>
          have hg0 := hno.out (by rw [hpb.out]; rfl)
          subst hg0
          clear hno hyes hpb
          go_wp2_with fail
          go_quiet ((go_at_call 48; exact quietQ (IX.out _ _ _ (by first | exact HBX | exact HBY))))
          go_wp2_with fail
          go_ret
          exact ⟨rfl, (by repeat (first | assumption | exact Quiet.refl _ | apply Quiet.drewN | apply Quiet.drew))⟩
        | true =>
          by_cases e : x = y
          · have hxy : (x == y) = true := by simp [e]
            have hg0 := hno.out (by rw [hpb.out, hxy]; rfl)
            subst hg0
            clear hno hyes hpb
            go_wp2_with fail
            go_quiet ((go_at_call 48; exact quietQ (IX.out _ _ _ (by first | exact HBX | exact HBY))))
            go_wp2_with fail
            go_ret
            exact ⟨rfl, (by repeat (first | assumption | exact Quiet.refl _ | apply Quiet.drewN | apply Quiet.drew))⟩
          · have hxy : (x == y) = false := by simpa using e
            have hok := Lib.hid (hyes.out (by rw [hpb.out, hxy]; rfl))
            clear hno hyes hpb
            go_wp2_with fail
            go_quiet ((go_at_call 48; exact quietQ (IX.out _ _ _ (by first | exact HBX | exact HBY))))
            go_wp2_with fail
            go_roundg (m - (j + 1))
            case measure => omega
            case rel => exact ⟨j + 1, by omega, rfl, by first | rfl | go_num, (by repeat (first | assumption | exact Quiet.refl _ | apply Quiet.drewN | apply Quiet.drew)), hok⟩
    · obtain rfl : j = m := by omega
      have hgd2 := Lib.hid hgd.out
      rw [hB.out, Bool.true_and] at hgd2
      obtain ⟨nb, HNB⟩ : ∃ z, Hid (z = (decide (1 ≤ n) && decide (n ≤ 9))) := ⟨_, rfl⟩
      rw [← HNB.out] at hgd2 IN
      clear HNB hgd hB IA HC
      cases nb with
      | false =>
        have hg0 : gb = false := by rw [← hgd2.out]; rfl
        subst hg0
        clear hgd2
        go_wp2_with (first | (go_at_call 48; refine (IN.out _).mono ?_; rintro e w4 ⟨rfl, hq4⟩))
        go_ret
        exact ⟨rfl, by obtain ⟨n1, rfl⟩ := hQ; obtain ⟨n2, rfl⟩ := hq4; exact ⟨n1 + n2, by simp⟩⟩
      | true =>
        by_cases h100 : j ≤ 100
        · have h100' : (j : Int) ≤ 100 := by omega
          have hg0 : gb = true := by rw [← hgd2.out]; simp [h100]
          subst hg0
          clear hgd2
          go_wp2_with (first | (go_at_call 48; refine (IN.out _).mono ?_; rintro e w4 ⟨rfl, hq4⟩))
          go_ret
          exact ⟨rfl, by obtain ⟨n1, rfl⟩ := hQ; obtain ⟨n2, rfl⟩ := hq4; exact ⟨n1 + n2, by simp⟩⟩
        · have h100' : ¬ (j : Int) ≤ 100 := by omega
          have hg0 : gb = false := by rw [← hgd2.out]; simp [h100]
          subst hg0
          clear hgd2
          go_wp2_with (first | (go_at_call 48; refine (IN.out _).mono ?_; rintro e w4 ⟨rfl, hq4⟩))
          go_ret
          exact ⟨ret_bool (decide_eq_false (by omega)), by obtain ⟨n1, rfl⟩ := hQ; obtain ⟨n2, rfl⟩ := hq4; exact ⟨n1 + n2, by simp⟩⟩
end Go.Proofs.YtlnlddnjalfamaaGreatDoor
