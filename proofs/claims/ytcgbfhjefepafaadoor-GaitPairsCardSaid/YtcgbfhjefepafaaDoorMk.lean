/-
  GaitPairs.
-/
import Derived.Test.YtcgbfhjefepafaaDoorLv
import Derived.Test.YtcgbfhjefepafaaDoorMj
namespace Go.Proofs.YtcgbfhjefepafaaDoor
open Go.RowKit Go.Deep Go.Shelf

set_option maxRecDepth 100000 in
set_option maxHeartbeats 16000000 in
theorem pairs_any (w : World) (x y : ByteArray) (hx : x.size ≤ 9223372036854775807) (hy : y.size ≤ 9223372036854775807) :
    Calls Tryd.prog 6 #[.string x, .string y] w (LivesPost w) := by
  have CX := Lib.hid (fun W => cut_any W x hx)
  have CY := Lib.hid (fun W => cut_any W y hy)
  have hs := cutS_size x
  have ht := cutS_size y
  generalize cutS x = s at *
  generalize cutS y = t at *
  have LV := Lib.hid lives_any
  have IG := Lib.hid (fun W => IsGolay_any W s t (by omega) (by omega))
  have DO := Lib.hid (fun W => Double_any W s t (by omega) (by omega))
  have RO := Lib.hid (fun W => rRow_two W s t)
  unfold IsGAns at IG
  unfold DoubAns at DO
  have em : ((⟨#[]⟩ : ByteArray).toList == (⟨#[]⟩ : ByteArray).toList) = true := beq_yes rfl
  by_cases h0 : rowsC 2 (twoS s t) = 0
  · rw [h0] at RO
    by_cases h1 : s.size = t.size
    · have hp : pairC s t = 0 := by unfold pairC; rw [if_pos h0, if_pos h1]
      obtain ⟨g1, g2, _⟩ := pair_good hp
      have g3 := rowC_good g1
      have RG := Lib.hid (fun W => rIsGolay_any W s t s.size rfl h1.symm g3.1 (by omega))
      rw [golR_gol g1 g2 h1] at RG
      have z1 : ((s.size : Int) != (t.size : Int)) = false := by simp [h1]
      simp only [if_pos hp] at IG
      obtain ⟨b, HB⟩ : ∃ b, Hid (b = golS s t s.size) := ⟨_, rfl⟩
      rw [← HB.out] at IG RG
      clear HB
      cases b
      all_goals
        by_cases h32 : 32 < s.size
        · have s1 : (s.size : Int) > 32 := by omega
          simp only [if_pos h32] at DO
          go_enter Tryd.func6, Tryd.ntmps6
          go_wp2_with (first
            | (go_at_call 15; first | (refine (CX.out _).mono ?_; clear CX; rintro e w1 ⟨rfl, rfl⟩) | (refine (CY.out _).mono ?_; rintro e w1 ⟨rfl, rfl⟩))
            | (go_at_call 32; refine (IG.out _).mono ?_; rintro e w1 ⟨hk1, rfl⟩)
            | (go_at_call 33; refine (DO.out _).mono ?_; rintro e w2 ⟨hk2, rfl⟩)
            | (go_at_call 19; refine (RO.out _).mono ?_; rintro e w3 ⟨rfl, hk3⟩)
            | (go_at_call 20; refine (LV.out _).mono ?_; rintro e w4 ⟨rfl, hk4⟩)
            | (go_at_call 30; refine (RG.out _).mono ?_; rintro e w5 ⟨rfl, hk5⟩))
          go_ret
          exact ⟨rfl, (((hk1.trans hk2).trans hk3).trans hk5).trans hk4⟩
        · have s1 : ¬ (s.size : Int) > 32 := by omega
          simp only [if_neg h32, if_pos hp] at DO
          have RM0 := Lib.hid (fun W => rMinus_any W t t.size rfl (by omega))
          have RM := Lib.hid (fun W => show Calls Tryd.prog 34 #[.string t] W fun e w' => e = .returned (.string (minS t)) ∧ W = w' from RM0.out W)
          have hm : (minS t).size = t.size := rowS_size _ _
          have e1 := beq_yes (rfl : s ++ t = s ++ t)
          have e2 := beq_yes (rfl : s ++ minS t = s ++ minS t)
          have s3 : ¬ 9223372036854775807 < s.size + t.size := by omega
          clear RM0
          generalize minS t = M at *
          go_enter Tryd.func6, Tryd.ntmps6
          go_wp2_with (first
            | (go_at_call 15; first | (refine (CX.out _).mono ?_; clear CX; rintro e w1 ⟨rfl, rfl⟩) | (refine (CY.out _).mono ?_; rintro e w1 ⟨rfl, rfl⟩))
            | (go_at_call 32; refine (IG.out _).mono ?_; rintro e w1 ⟨hk1, rfl⟩)
            | (go_at_call 33; refine (DO.out _).mono ?_; rintro e w2 ⟨hk2, rfl⟩)
            | (go_at_call 19; refine (RO.out _).mono ?_; rintro e w3 ⟨rfl, hk3⟩)
            | (go_at_call 20; refine (LV.out _).mono ?_; rintro e w4 ⟨rfl, hk4⟩)
            | (go_at_call 30; refine (RG.out _).mono ?_; rintro e w5 ⟨rfl, hk5⟩)
            | (go_at_call 34; refine (RM.out _).mono ?_; rintro e w6 ⟨rfl, rfl⟩))
          go_ret
          exact ⟨rfl, (((hk1.trans hk2).trans hk3).trans hk5).trans hk4⟩
    · have hp : ¬ pairC s t = 0 := by unfold pairC; rw [if_pos h0, if_neg h1]; decide
      have hp2 : pairC s t = 2 := by unfold pairC; rw [if_pos h0, if_neg h1]
      have z1 : ((s.size : Int) != (t.size : Int)) = true := by simp; omega
      simp only [hp2] at IG
      simp only [hp2] at DO hp
      clear h0 hp2
      by_cases h32 : 32 < s.size
      · have s1 : (s.size : Int) > 32 := by omega
        simp only [if_pos h32] at DO
        go_enter Tryd.func6, Tryd.ntmps6
        go_wp2_with (first
          | (go_at_call 15; first | (refine (CX.out _).mono ?_; clear CX; rintro e w1 ⟨rfl, rfl⟩) | (refine (CY.out _).mono ?_; rintro e w1 ⟨rfl, rfl⟩))
          | (go_at_call 32; refine (IG.out _).mono ?_; rintro e w1 ⟨hk1, rfl⟩)
          | (go_at_call 33; refine (DO.out _).mono ?_; rintro e w2 ⟨hk2, rfl⟩)
          | (go_at_call 19; refine (RO.out _).mono ?_; rintro e w3 ⟨rfl, hk3⟩)
          | (go_at_call 20; refine (LV.out _).mono ?_; rintro e w4 ⟨rfl, hk4⟩))
        go_ret
        exact ⟨rfl, ((hk1.trans hk2).trans hk3).trans hk4⟩
      · have s1 : ¬ (s.size : Int) > 32 := by omega
        simp only [if_neg h32, if_neg hp] at DO
        go_enter Tryd.func6, Tryd.ntmps6
        go_wp2_with (first
          | (go_at_call 15; first | (refine (CX.out _).mono ?_; clear CX; rintro e w1 ⟨rfl, rfl⟩) | (refine (CY.out _).mono ?_; rintro e w1 ⟨rfl, rfl⟩))
          | (go_at_call 32; refine (IG.out _).mono ?_; rintro e w1 ⟨hk1, rfl⟩)
          | (go_at_call 33; refine (DO.out _).mono ?_; rintro e w2 ⟨hk2, rfl⟩)
          | (go_at_call 19; refine (RO.out _).mono ?_; rintro e w3 ⟨rfl, hk3⟩)
          | (go_at_call 20; refine (LV.out _).mono ?_; rintro e w4 ⟨rfl, hk4⟩))
        go_ret
        exact ⟨rfl, ((hk1.trans hk2).trans hk3).trans hk4⟩
  · have hp2 : pairC s t = rowsC 2 (twoS s t) := by unfold pairC; rw [if_neg h0]
    have hp : ¬ pairC s t = 0 := by rw [hp2]; exact h0
    simp only [if_neg hp] at IG DO
    simp only [hp2] at IG DO
    rw [hp2] at hp
    obtain ⟨r, HR⟩ : ∃ r, Hid (r = rowsC 2 (twoS s t)) := ⟨_, rfl⟩
    rw [← HR.out] at IG DO RO hp
    have r1 : (r == 0) = false := by simpa using hp
    have r2 : (r != 0) = true := by simpa using hp
    have r3 : (r != r) = false := by simp
    have r4 : (r == r) = true := by simp
    clear h0 hp2 HR
    by_cases h32 : 32 < s.size
    · have s1 : (s.size : Int) > 32 := by omega
      simp only [if_pos h32] at DO
      go_enter Tryd.func6, Tryd.ntmps6
      go_wp2_with (first
        | (go_at_call 15; first | (refine (CX.out _).mono ?_; clear CX; rintro e w1 ⟨rfl, rfl⟩) | (refine (CY.out _).mono ?_; rintro e w1 ⟨rfl, rfl⟩))
        | (go_at_call 32; refine (IG.out _).mono ?_; rintro e w1 ⟨hk1, rfl⟩)
        | (go_at_call 33; refine (DO.out _).mono ?_; rintro e w2 ⟨hk2, rfl⟩)
        | (go_at_call 19; refine (RO.out _).mono ?_; rintro e w3 ⟨rfl, hk3⟩)
        | (go_at_call 20; refine (LV.out _).mono ?_; rintro e w4 ⟨rfl, hk4⟩))
      go_ret
      exact ⟨rfl, ((hk1.trans hk2).trans hk3).trans hk4⟩
    · have s1 : ¬ (s.size : Int) > 32 := by omega
      simp only [if_neg h32] at DO
      go_enter Tryd.func6, Tryd.ntmps6
      go_wp2_with (first
        | (go_at_call 15; first | (refine (CX.out _).mono ?_; clear CX; rintro e w1 ⟨rfl, rfl⟩) | (refine (CY.out _).mono ?_; rintro e w1 ⟨rfl, rfl⟩))
        | (go_at_call 32; refine (IG.out _).mono ?_; rintro e w1 ⟨hk1, rfl⟩)
        | (go_at_call 33; refine (DO.out _).mono ?_; rintro e w2 ⟨hk2, rfl⟩)
        | (go_at_call 19; refine (RO.out _).mono ?_; rintro e w3 ⟨rfl, hk3⟩)
        | (go_at_call 20; refine (LV.out _).mono ?_; rintro e w4 ⟨rfl, hk4⟩))
      go_ret
      exact ⟨rfl, ((hk1.trans hk2).trans hk3).trans hk4⟩
end Go.Proofs.YtcgbfhjefepafaaDoor
