/-
  HerdTurans.
-/
import Derived.Test.YtfbiinjpljmapaaDoorIm
import Derived.Test.YtfbiinjpljmapaaDoorJc
import Derived.Test.YtfbiinjpljmapaaDoorJd
namespace Go.Proofs.YtfbiinjpljmapaaDoor
open Go.RowKit Go.Deep

theorem PrsAt.kept {w w' : World} {v : Value} {l : List (Nat × Nat)} (h : PrsAt w v l) (k : Kept w w') : PrsAt w' v l := PairsAt.kept h k
theorem within_true {x m : Int} (h : withinB x m = true) : 1 ≤ x ∧ x ≤ m := by unfold withinB at h; simpa using h
theorem within_false {x m : Int} (h : withinB x m = false) : x < 1 ∨ m < x := by unfold withinB at h; simp at h; omega
theorem within_mk {x m : Int} (h : 1 ≤ x ∧ x ≤ m) : withinB x m = true := by unfold withinB; simp; omega
set_option maxRecDepth 100000 in
set_option maxHeartbeats 16000000 in
theorem turans_any (w : World) (n r : Int) : Calls Tryd.prog 4 #[.int .i64 n, .int .i64 r] w (LivesPost w) := by
  have LV := Lib.hid lives_any
  have TP0 := fun W => Turan_any W n r
  have MP0 := fun W => Most_any W n r
  unfold TuranPost at TP0
  cases W9 : (withinB n 9 && withinB r 9) with
  | true =>
    rw [Bool.and_eq_true] at W9
    obtain ⟨n1, n9⟩ := within_true W9.1
    obtain ⟨r1, r9⟩ := within_true W9.2
    simp only [W9.1, W9.2, within_mk (x := n) (m := 1000) (by omega), within_mk (x := r) (m := 1000) (by omega), Bool.and_self, if_true] at TP0 MP0
    obtain ⟨N, rfl⟩ : ∃ N : Nat, n = N := ⟨n.toNat, by omega⟩
    obtain ⟨R, rfl⟩ : ∃ R : Nat, r = R := ⟨r.toNat, by omega⟩
    simp only [Int.toNat_natCast] at TP0 MP0
    have TP := Lib.hid TP0
    have MP := Lib.hid MP0
    have RT := Lib.hid (fun W => refTuran_any W N R (by omega) (by omega) (by omega))
    have RM := Lib.hid (fun W => refMost_any W N R (by omega) (by omega) (by omega))
    have hll : (turanL N R).length ≤ 1000000 := by
      have h := turL_len (prtL N R R) N N
      have h2 : N * N ≤ 9 * 9 := Nat.mul_le_mul (by omega) (by omega)
      show (turL (prtL N R R) N N).length ≤ 1000000
      omega
    have SP := Lib.hid (fun W u v h1 h2 => SamePairs_any W u v (turanL N R) h1 h2 hll)
    clear TP0 MP0 W9 hll
    have f1 : ¬ (N : Int) < 1 := by omega
    have f2 : ¬ (N : Int) > 9 := by omega
    have f3 : ¬ (R : Int) < 1 := by omega
    have f4 : ¬ (R : Int) > 9 := by omega
    have f5 : ¬ (N : Int) > 1000 := by omega
    have f6 : ¬ (R : Int) > 1000 := by omega
    go_enter Tryd.func4, Tryd.ntmps4
    go_wp2_with (first | (go_at_call 18; refine (TP.out _).mono ?_; clear TP; rintro e w1 ⟨hk1, v, rfl, hv⟩) | (go_at_call 19; refine (MP.out _).mono ?_; clear MP; rintro e w2 ⟨rfl, rfl⟩) | (go_at_call 21; refine (RT.out _).mono ?_; rintro e w3 ⟨v3, rfl, hO3, hk3⟩) | (go_at_call 20; refine (SP.out _ _ _ (PrsAt.kept hv hk3) (PrsAt.of_own hO3)).mono ?_; rintro e w4 ⟨rfl, hq4⟩) | (go_at_call 22; refine (RM.out _).mono ?_; rintro e w5 ⟨rfl, rfl⟩) | (go_at_call 14; refine (LV.out _).mono ?_; rintro e w6 ⟨rfl, hk6⟩))
    go_ret
    exact ⟨rfl, ((hk1.trans hk3).trans hq4.kept).trans hk6⟩
  | false =>
    have W9' : withinB n 9 = false ∨ withinB r 9 = false := by
      cases h : withinB n 9 with
      | false => exact .inl rfl
      | true => rw [h, Bool.true_and] at W9; exact .inr W9
    rw [W9] at TP0
    simp only [Bool.false_eq_true, if_false] at TP0
    have TP := Lib.hid TP0
    clear TP0
    cases W1000 : (withinB n 1000 && withinB r 1000) with
    | true =>
      rw [W1000] at MP0
      rw [Bool.and_eq_true] at W1000
      obtain ⟨n1, n2⟩ := within_true W1000.1
      obtain ⟨r1, r2⟩ := within_true W1000.2
      simp only [if_true] at MP0
      obtain ⟨N, rfl⟩ : ∃ N : Nat, n = N := ⟨n.toNat, by omega⟩
      obtain ⟨R, rfl⟩ : ∃ R : Nat, r = R := ⟨r.toNat, by omega⟩
      simp only [Int.toNat_natCast] at MP0
      have MP := Lib.hid MP0
      have RM := Lib.hid (fun W => refMost_any W N R (by omega) (by omega) (by omega))
      have f1 : ¬ (N : Int) < 1 := by omega
      have f3 : ¬ (R : Int) < 1 := by omega
      have f5 : ¬ (N : Int) > 1000 := by omega
      have f6 : ¬ (R : Int) > 1000 := by omega
      have HC : (N : Int) > 9 ∨ ¬ (N : Int) > 9 ∧ (R : Int) > 9 := by
        rcases W9' with h | h
        · have := within_false h; omega
        · have := within_false h; omega
      clear MP0 W9 W9' W1000
      rcases HC with f2 | ⟨f2, f4⟩
      all_goals
        go_enter Tryd.func4, Tryd.ntmps4
        go_wp2_with (first | (go_at_call 18; refine (TP.out _).mono ?_; clear TP; rintro e w1 ⟨hk1, rfl⟩) | (go_at_call 19; refine (MP.out _).mono ?_; clear MP; rintro e w2 ⟨rfl, rfl⟩) | (go_at_call 22; refine (RM.out _).mono ?_; rintro e w5 ⟨rfl, rfl⟩) | (go_at_call 14; refine (LV.out _).mono ?_; rintro e w6 ⟨rfl, hk6⟩))
        go_ret
        exact ⟨rfl, hk1.trans hk6⟩
    | false =>
      have W' : withinB n 1000 = false ∨ withinB r 1000 = false := by
        cases h : withinB n 1000 with
        | false => exact .inl rfl
        | true => rw [h, Bool.true_and] at W1000; exact .inr W1000
      rw [W1000] at MP0
      simp only [Bool.false_eq_true, if_false] at MP0
      have MP := Lib.hid MP0
      have HC : (n < 1) ∨ (¬ n < 1 ∧ n > 9 ∧ n > 1000) ∨ (¬ n < 1 ∧ n > 9 ∧ ¬ n > 1000 ∧ r < 1) ∨ (¬ n < 1 ∧ n > 9 ∧ ¬ n > 1000 ∧ ¬ r < 1 ∧ r > 1000) ∨ (¬ n < 1 ∧ ¬ n > 9 ∧ ¬ n > 1000 ∧ r < 1) ∨ (¬ n < 1 ∧ ¬ n > 9 ∧ ¬ n > 1000 ∧ ¬ r < 1 ∧ r > 9 ∧ r > 1000) := by
        rcases W' with h | h
        · have := within_false h; omega
        · have := within_false h; omega
      clear MP0 W9 W9' W1000 W'
      rcases HC with f1 | ⟨f1, f2, f3⟩ | ⟨f1, f2, f3, f4⟩ | ⟨f1, f2, f3, f4, f5⟩ | ⟨f1, f2, f3, f4⟩ | ⟨f1, f2, f3, f4, f5, f6⟩
      all_goals
        go_enter Tryd.func4, Tryd.ntmps4
        go_wp2_with (first | (go_at_call 18; refine (TP.out _).mono ?_; clear TP; rintro e w1 ⟨hk1, rfl⟩) | (go_at_call 19; refine (MP.out _).mono ?_; clear MP; rintro e w2 ⟨rfl, rfl⟩) | (go_at_call 14; refine (LV.out _).mono ?_; rintro e w6 ⟨rfl, hk6⟩))
        go_ret
        exact ⟨rfl, hk1.trans hk6⟩
end Go.Proofs.YtfbiinjpljmapaaDoor
