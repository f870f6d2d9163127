/-
  The laws' root3.
-/
import Derived.Test.YtomnjcjipdnnfaaNr
import Derived.Test.YtomnjcjipdnnfaaWa
import Derived.Test.YtomnjcjipdnnfaaLv
namespace Go.Proofs.Ytomnjcjipdnnfaa
open Go.RowKit Go.Deep

theorem big_of {z : Int} (h1 : -(10000 ^ 10) < z) (h2 : z < 10000 ^ 10) : Big z := by
  have h3 : (10000 : Int) ^ 10 ≤ bigN := pw_le (by omega)
  unfold Big
  omega
theorem cmpI_le {x y : Int} (h : x ≤ y) : cmpI x y ≤ 0 := by
  unfold cmpI
  by_cases e : x < y
  · rw [if_pos e]; omega
  · rw [if_neg e, if_neg (by omega)]; omega
theorem mul_bd {x y B C : Int} (hx : 0 ≤ x ∧ x ≤ B) (hy : 0 ≤ y ∧ y ≤ C) : 0 ≤ x * y ∧ x * y ≤ B * C :=
  ⟨Int.mul_nonneg hx.1 hy.1, Int.mul_le_mul hx.2 hy.2 hy.1 (by omega)⟩
set_option maxRecDepth 100000 in
set_option maxHeartbeats 8000000 in
theorem root3_any (w : World) (a c d : Int) (ha : 0 ≤ a ∧ a ≤ 8000000) (hc : 0 ≤ c ∧ c ≤ 8000000) (hd : 0 ≤ d ∧ d ≤ 8000000) (hr : Root3 a c d) :
    Calls Try.prog 40 #[.int .i64 a, .int .i64 c, .int .i64 d] w (LivesPost w) := by
  have HRT := Lib.hid hr
  obtain ⟨a0, a1⟩ := ha
  obtain ⟨c0, c1⟩ := hc
  obtain ⟨d0, d1⟩ := hd
  have bb : ∀ z : Int, -1000000000000000000000000000000 ≤ z → z ≤ 1000000000000000000000000000000 → Big z := fun z h1 h2 => big_of (by omega) (by omega)
  have BB := Lib.hid bb
  have hmm : 0 ≤ c * d ∧ c * d ≤ 8000000 * 8000000 := mul_bd ⟨c0, c1⟩ ⟨d0, d1⟩
  clear hr bb
  go_enter Try.func40, Try.ntmps40
  go_wp2_with fail
  refine (Whole_any _ a (by omega) (by omega)).mono ?_
  rintro e w1 ⟨v1, rfl, hq1, hk1⟩
  have HQ1 := Lib.hid hq1
  clear hq1
  go_wp2_with fail
  refine (Whole_any _ c (by omega) (by omega)).mono ?_
  rintro e w2 ⟨v2, rfl, hq2, hk2⟩
  have HQ2 := Lib.hid hq2
  clear hq2
  go_wp2_with fail
  refine (Whole_any _ d (by omega) (by omega)).mono ?_
  rintro e w3 ⟨v3, rfl, hq3, hk3⟩
  have HQ3 := Lib.hid hq3
  clear hq3
  go_wp2_with fail
  refine (AddQ_any _ _ _ c 1 d 1 (HQ2.out.kept hk3) HQ3.out (BB.out _ (by omega) (by omega)) (BB.out _ (by omega) (by omega)) (BB.out _ (by omega) (by omega)) (BB.out _ (by omega) (by omega))).mono ?_
  rintro e w4 ⟨v4, rfl, hq4, hk4⟩
  have hK4 := ((hk1.trans hk2).trans hk3).trans hk4
  have HQ4 := Lib.hid hq4
  clear hq4
  go_wp2_with fail
  refine (SubQ_any _ _ _ a 1 _ _ ((HQ1.out.kept (hk2.trans hk3)).kept hk4) HQ4.out (BB.out _ (by omega) (by omega)) (BB.out _ (by omega) (by omega)) (BB.out _ (by omega) (by omega)) (BB.out _ (by omega) (by omega))).mono ?_
  rintro e w5 ⟨v5, rfl, hq5, hk5⟩
  have hK5 := hK4.trans hk5
  rw [show a * (1 * 1) - (c * 1 + d * 1) * 1 = a - (c + d) by omega, show (1 : Int) * (1 * 1) = 1 by rfl] at hq5
  obtain ⟨R, HR⟩ : ∃ R, Hid (R = a - (c + d)) := ⟨_, rfl⟩
  rw [← HR.out] at hq5
  obtain ⟨m, ad, l, cp, m2, ad2, l2, cp2, rfl, hn, hd5⟩ := hq5.shape
  have HQ5 := Lib.hid hq5
  have HN5 := Lib.hid hn
  clear hq5 hn hd5 HQ1 HQ2 HQ3 HQ4 hk1 hk2 hk3 hk4 hk5 hK4
  have hbx := box_row4 w5 (.bool m) (.slice ad l cp) (.bool m2) (.slice ad2 l2 cp2) 64 w5.heap.size rfl
  have hk6 : Kept w5 (w5.alloc (.cells #[.bool m, .slice ad l cp, .bool m2, .slice ad2 l2 cp2] 64)) := (Kept.refl w5).alloc _
  go_wp2_with fail
  obtain ⟨z0, HZ0⟩ : ∃ z0, Hid (z0 = w5.heap.size) := ⟨_, rfl⟩
  rw [← HZ0.out] at hbx ⊢
  generalize w5.alloc (.cells #[.bool m, .slice ad l cp, .bool m2, .slice ad2 l2 cp2] 64) = W at *
  have hK6 := hK5.trans hk6
  refine (Sign_any _ _ R (HN5.out.kept hk6)).mono ?_
  rintro e w7 ⟨rfl, hk7⟩
  have hK7 := hK6.trans hk7
  obtain ⟨g0, g1, g2, g3, _⟩ := bx4_cells (hk7.row hbx)
  clear hbx
  by_cases hR : R ≤ 0
  · have hs : signI R ≤ 0 := by
      unfold signI
      by_cases h : R < 0
      · rw [if_pos h]; omega
      · rw [if_neg h, if_neg (by omega)]; omega
    generalize signI R = sg at *
    go_wp2_with fail
    go_ret
    exact ⟨rfl, hK7⟩
  · have hs : ¬ signI R ≤ 0 := by
      unfold signI
      rw [if_neg (by omega), if_pos (by omega)]; omega
    have hR2 : 0 ≤ R ∧ R ≤ 8000000 := by rw [HR.out]; have := HR.out; omega
    have hsq : R * R ≤ 4 * (c * d) := by
      rcases HRT.out with h | h
      · have := HR.out; omega
      · rw [HR.out]; exact h
    have hRR := mul_bd hR2 hR2
    generalize signI R = sg at *
    have HSQ := Lib.hid hsq
    have HRR := Lib.hid hRR
    have HMM := Lib.hid hmm
    have hQ7 := HQ5.out.kept (hk6.trans hk7)
    have HQ7 := Lib.hid hQ7
    clear hsq hRR hmm hQ7 hR2
    go_wp2_with fail
    refine (MulQ_any _ _ _ R 1 R 1 HQ7.out HQ7.out (BB.out _ (by have := HRR.out; omega) (by have := HRR.out; omega)) (BB.out _ (by omega) (by omega))).mono ?_
    rintro e w8 ⟨v8, rfl, hq8, hk8⟩
    have HQ8 := Lib.hid hq8
    clear hq8
    go_wp2_with fail
    refine (Whole_any _ 4 (by omega) (by omega)).mono ?_
    rintro e w9 ⟨v9, rfl, hq9, hk9⟩
    have HQ9 := Lib.hid hq9
    clear hq9
    go_wp2_with fail
    refine (Whole_any _ c (by omega) (by omega)).mono ?_
    rintro e w10 ⟨v10, rfl, hq10, hk10⟩
    have HQ10 := Lib.hid hq10
    clear hq10
    go_wp2_with fail
    refine (Whole_any _ d (by omega) (by omega)).mono ?_
    rintro e w11 ⟨v11, rfl, hq11, hk11⟩
    have HQ11 := Lib.hid hq11
    clear hq11
    go_wp2_with fail
    refine (MulQ_any _ _ _ c 1 d 1 (HQ10.out.kept hk11) HQ11.out (BB.out _ (by have := HMM.out; omega) (by have := HMM.out; omega)) (BB.out _ (by omega) (by omega))).mono ?_
    rintro e w12 ⟨v12, rfl, hq12, hk12⟩
    have HQ12 := Lib.hid hq12
    clear hq12
    go_wp2_with fail
    refine (MulQ_any _ _ _ 4 1 _ _ (((HQ9.out.kept hk10).kept hk11).kept hk12) HQ12.out (BB.out _ (by have := HMM.out; omega) (by have := HMM.out; omega)) (BB.out _ (by omega) (by omega))).mono ?_
    rintro e w13 ⟨v13, rfl, hq13, hk13⟩
    have HQ13 := Lib.hid hq13
    clear hq13
    go_wp2_with fail
    refine (CmpQ_any _ _ _ _ _ _ _ (((((HQ8.out.kept hk9).kept hk10).kept hk11).kept hk12).kept hk13) HQ13.out (BB.out _ (by have := HRR.out; omega) (by have := HRR.out; omega)) (BB.out _ (by have := HMM.out; omega) (by have := HMM.out; omega)) (BB.out _ (by have := HMM.out; have := HRR.out; omega) (by have := HMM.out; have := HRR.out; omega))).mono ?_
    rintro e w14 ⟨rfl, hk14⟩
    have hle := cmpI_le (x := R * R * (1 * (1 * 1))) (y := 4 * (c * d) * (1 * 1)) (by have := HSQ.out; omega)
    have hK14 := ((((((hK7.trans hk8).trans hk9).trans hk10).trans hk11).trans hk12).trans hk13).trans hk14
    generalize cmpI (R * R * (1 * (1 * 1))) (4 * (c * d) * (1 * 1)) = q at *
    clear hk8 hk9 hk10 hk11 hk12 hk13 hk14
    go_wp2_with fail
    go_ret
    exact ⟨rfl, hK14⟩
end Go.Proofs.Ytomnjcjipdnnfaa
