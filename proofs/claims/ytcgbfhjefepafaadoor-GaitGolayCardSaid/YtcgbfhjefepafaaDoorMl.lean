/-
  GaitGolays.
-/
import Derived.Test.YtcgbfhjefepafaaDoorLv
import Derived.Test.YtcgbfhjefepafaaDoorMh
namespace Go.Proofs.YtcgbfhjefepafaaDoor
open Go.RowKit Go.Deep Go.Shelf

theorem two_ok {s t : ByteArray} (hs : rowC s = 0) (ht : rowC t = 0) : rowsC 2 (twoS s t) = 0 := by
  have a := rowC_good hs
  have b := rowC_good ht
  unfold rowsC
  have h1 : allN (fun i => decide ((twoS s t i).size ≤ 64)) 2 = true := allN_true.2 fun i _ => by
    unfold twoS
    split
    · exact decide_eq_true a.2.1
    · exact decide_eq_true b.2.1
  have h2 : allN (fun i => okS (twoS s t i)) 2 = true := allN_true.2 fun i _ => by
    unfold twoS okS
    split
    · rw [decide_eq_true (show 0 < s.size by omega), a.2.2]; rfl
    · rw [decide_eq_true (show 0 < t.size by omega), b.2.2]; rfl
  rw [if_pos h1, if_pos h2]
theorem gol_pair {n : Nat} (h : gx n < 2 ^ n) (hn1 : 1 ≤ n) (hn : n ≤ 64) : rowsC 2 (twoS (rowN n (gx n)) (rowN n (gy n (gx n)))) = 0 ∧ golR (rowN n (gx n)) (rowN n (gy n (gx n))) n = true ∧ (rowN n (gx n)).size = n ∧ (rowN n (gy n (gx n))).size = n :=
  ⟨two_ok (rowC_rowS hn1 hn) (rowC_rowS hn1 hn), (golR_rows n _ _).trans (gx_is h).2, rowS_size _ _, rowS_size _ _⟩
set_option maxRecDepth 100000 in
set_option maxHeartbeats 16000000 in
theorem golays_any (w : World) (n : Int) : Calls Tryd.prog 5 #[.int .i64 n] w (LivesPost w) := by
  have LV := Lib.hid lives_any
  have GO := Lib.hid (fun W => Golay_any W n)
  unfold GolAns at GO
  have em : ((⟨#[]⟩ : ByteArray).toList == (⟨#[]⟩ : ByteArray).toList) = true := beq_yes rfl
  have hcase : n = 7 ∨ n = 8 ∨ n = 9 ∨ n = 10 ∨ (1 ≤ n ∧ n ≤ 6) ∨ n < 1 ∨ 10 < n := by omega
  rcases hcase with h | h | h | h | h | h | h
  · subst h
    simp only [show (1 : Int) ≤ 7 ∧ (7 : Int) ≤ 10 by omega, and_self, if_true, show ((7 : Int)).toNat = 7 from rfl, if_neg gol7] at GO
    go_enter Tryd.func5, Tryd.ntmps5
    go_wp2_with (first
      | (go_at_call 29; refine (GO.out _).mono ?_; rintro e w1 ⟨hk1, rfl⟩)
      | (go_at_call 20; refine (LV.out _).mono ?_; rintro e w4 ⟨rfl, hk4⟩))
    go_ret
    exact ⟨rfl, hk1.trans hk4⟩
  · subst h
    obtain ⟨g1, g2, g3, g4⟩ := gol_pair gol8 (by omega) (by omega)
    simp only [show (1 : Int) ≤ 8 ∧ (8 : Int) ≤ 10 by omega, and_self, if_true, show ((8 : Int)).toNat = 8 from rfl, if_pos gol8] at GO
    generalize rowN 8 (gx 8) = S at *
    generalize rowN 8 (gy 8 (gx 8)) = T at *
    have RO := Lib.hid (fun W => rRow_two W S T)
    rw [g1] at RO
    have RI := Lib.hid (fun W => rIsGolay_any W S T 8 g3 g4 (by omega) (by omega))
    rw [g2] at RI
    have z1 : ((S.size : Int) == 8) = true := by rw [g3]; rfl
    have z2 : ((T.size : Int) == 8) = true := by rw [g4]; rfl
    clear g1 g2
    go_enter Tryd.func5, Tryd.ntmps5
    go_wp2_with (first
      | (go_at_call 29; refine (GO.out _).mono ?_; rintro e w1 ⟨hk1, rfl⟩)
      | (go_at_call 19; refine (RO.out _).mono ?_; rintro e w2 ⟨rfl, hk2⟩)
      | (go_at_call 30; refine (RI.out _).mono ?_; rintro e w3 ⟨rfl, hk3⟩)
      | (go_at_call 20; refine (LV.out _).mono ?_; rintro e w4 ⟨rfl, hk4⟩))
    go_ret
    exact ⟨rfl, ((hk1.trans hk2).trans hk3).trans hk4⟩
  · subst h
    simp only [show (1 : Int) ≤ 9 ∧ (9 : Int) ≤ 10 by omega, and_self, if_true, show ((9 : Int)).toNat = 9 from rfl, if_neg gol9] at GO
    go_enter Tryd.func5, Tryd.ntmps5
    go_wp2_with (first
      | (go_at_call 29; refine (GO.out _).mono ?_; rintro e w1 ⟨hk1, rfl⟩)
      | (go_at_call 20; refine (LV.out _).mono ?_; rintro e w4 ⟨rfl, hk4⟩))
    go_ret
    exact ⟨rfl, hk1.trans hk4⟩
  · subst h
    obtain ⟨g1, g2, g3, g4⟩ := gol_pair gol10 (by omega) (by omega)
    simp only [show (1 : Int) ≤ 10 ∧ (10 : Int) ≤ 10 by omega, and_self, if_true, show ((10 : Int)).toNat = 10 from rfl, if_pos gol10] at GO
    generalize rowN 10 (gx 10) = S at *
    generalize rowN 10 (gy 10 (gx 10)) = T at *
    have RO := Lib.hid (fun W => rRow_two W S T)
    rw [g1] at RO
    have RI := Lib.hid (fun W => rIsGolay_any W S T 10 g3 g4 (by omega) (by omega))
    rw [g2] at RI
    have z1 : ((S.size : Int) == 10) = true := by rw [g3]; rfl
    have z2 : ((T.size : Int) == 10) = true := by rw [g4]; rfl
    clear g1 g2
    go_enter Tryd.func5, Tryd.ntmps5
    go_wp2_with (first
      | (go_at_call 29; refine (GO.out _).mono ?_; rintro e w1 ⟨hk1, rfl⟩)
      | (go_at_call 19; refine (RO.out _).mono ?_; rintro e w2 ⟨rfl, hk2⟩)
      | (go_at_call 30; refine (RI.out _).mono ?_; rintro e w3 ⟨rfl, hk3⟩)
      | (go_at_call 20; refine (LV.out _).mono ?_; rintro e w4 ⟨rfl, hk4⟩))
    go_ret
    exact ⟨rfl, ((hk1.trans hk2).trans hk3).trans hk4⟩
  · obtain ⟨m, rfl⟩ : ∃ m : Nat, n = m := ⟨n.toNat, by omega⟩
    have RG := Lib.hid (fun W => rGolay_any W m (by omega) (by omega))
    unfold RGolPost at RG
    simp only [if_pos (show 1 ≤ (m : Int) ∧ (m : Int) ≤ 10 by omega), Int.toNat_natCast] at GO
    have s1 : ¬ (m : Int) > 6 := by omega
    have s2 : (m : Int) ≥ 1 := by omega
    have s3 : (m : Int) ≤ 6 := by omega
    by_cases h2 : gx m < 2 ^ m
    · simp only [if_pos h2] at GO RG
      generalize rowN m (gx m) = S at *
      generalize rowN m (gy m (gx m)) = T at *
      have e1 := beq_yes (rfl : S = S)
      have e2 := beq_yes (rfl : T = T)
      clear h h2
      go_enter Tryd.func5, Tryd.ntmps5
      go_wp2_with (first
        | (go_at_call 29; refine (GO.out _).mono ?_; rintro e w1 ⟨hk1, rfl⟩)
        | (go_at_call 31; refine (RG.out _).mono ?_; rintro e w2 ⟨hk2, rfl⟩)
        | (go_at_call 20; refine (LV.out _).mono ?_; rintro e w4 ⟨rfl, hk4⟩))
      go_ret
      exact ⟨rfl, (hk1.trans hk2).trans hk4⟩
    · simp only [if_neg h2] at GO RG
      clear h h2
      go_enter Tryd.func5, Tryd.ntmps5
      go_wp2_with (first
        | (go_at_call 29; refine (GO.out _).mono ?_; rintro e w1 ⟨hk1, rfl⟩)
        | (go_at_call 31; refine (RG.out _).mono ?_; rintro e w2 ⟨hk2, rfl⟩)
        | (go_at_call 20; refine (LV.out _).mono ?_; rintro e w4 ⟨rfl, hk4⟩))
      go_ret
      exact ⟨rfl, (hk1.trans hk2).trans hk4⟩
  · simp only [if_neg (show ¬ (1 ≤ n ∧ n ≤ 10) by omega)] at GO
    have s1 : ¬ n > 6 := by omega
    have s2 : ¬ n ≥ 1 := by omega
    go_enter Tryd.func5, Tryd.ntmps5
    go_wp2_with (first
      | (go_at_call 29; refine (GO.out _).mono ?_; rintro e w1 ⟨hk1, rfl⟩)
      | (go_at_call 20; refine (LV.out _).mono ?_; rintro e w4 ⟨rfl, hk4⟩))
    go_ret
    exact ⟨rfl, hk1.trans hk4⟩
  · simp only [if_neg (show ¬ (1 ≤ n ∧ n ≤ 10) by omega)] at GO
    have s1 : n > 6 := by omega
    have s2 : n ≥ 1 := by omega
    have s3 : ¬ n ≤ 10 := by omega
    have s4 : ¬ n ≤ 6 := by omega
    go_enter Tryd.func5, Tryd.ntmps5
    go_wp2_with (first
      | (go_at_call 29; refine (GO.out _).mono ?_; rintro e w1 ⟨hk1, rfl⟩)
      | (go_at_call 20; refine (LV.out _).mono ?_; rintro e w4 ⟨rfl, hk4⟩))
    go_ret
    exact ⟨rfl, hk1.trans hk4⟩
end Go.Proofs.YtcgbfhjefepafaaDoor
