/-
  GaitSylvesters.
-/
import Derived.Test.YtofgadehblpoiaaDoorLv
import Derived.Test.YtofgadehblpoiaaDoorYc
namespace Go.Proofs.YtofgadehblpoiaaDoor
open Go.RowKit Go.Deep Go.Shelf

theorem sameS_refl (n : Nat) (S : Nat → ByteArray) : sameS n S n S = true := by
  unfold sameS
  rw [decide_eq_true rfl, Bool.true_and, allN_true]
  exact fun i _ => decide_eq_true rfl
set_option maxRecDepth 100000 in
set_option maxHeartbeats 8000000 in
theorem sylvesters_any (w : World) (k : Int) : Calls Tryd.prog 4 #[.int .i64 k] w (LivesPost w) := by
  have SY := Lib.hid (fun W => Sylvester_any W k)
  have LV := Lib.hid lives_any
  unfold SylAns at SY
  by_cases h : 0 ≤ k ∧ k ≤ 5
  · simp only [if_pos h] at SY
    obtain ⟨n, rfl⟩ : ∃ n : Nat, k = n := ⟨k.toNat, by omega⟩
    have hn : n ≤ 6 := by omega
    have s1 : ¬ (n : Int) < 0 := by omega
    have s2 : ¬ (n : Int) > 5 := by omega
    have RS := Lib.hid (fun W => rSylvester_any W n hn)
    unfold StrsPost at RS
    have hN : 2 ^ n ≤ 1000000 := by have := Nat.pow_le_pow_right (n := 2) (by omega) hn; omega
    simp only [Int.toNat_natCast] at SY
    generalize 2 ^ n = N at *
    clear h
    go_enter Tryd.func4, Tryd.ntmps4
    go_wp2_with (first
      | (go_at_call 27; refine (SY.out _).mono ?_; rintro e w1 ⟨hk1, r, rfl, hr1, hO⟩)
      | (go_at_call 29; refine (RS.out _).mono ?_; rintro e w2 ⟨v2, rfl, hk2, hO2⟩; obtain ⟨va2, vcap2, rfl⟩ := own_shape hO2)
      | (go_at_call 28; refine (sameS_any _ _ _ _ _ _ _ (CellsAt.of_row (hk2.row hO)) (strs_own hO2) hN hN).mono ?_; rintro e w7 ⟨rfl, hq7⟩; rw [sameS_refl])
      | (go_at_call 20; refine (LV.out _).mono ?_; rintro e w3 ⟨rfl, hk3⟩))
    go_ret
    exact ⟨rfl, ((hk1.trans hk2).trans hq7.kept).trans hk3⟩
  · simp only [if_neg h] at SY
    by_cases h0 : k < 0
    · clear h
      go_enter Tryd.func4, Tryd.ntmps4
      go_wp2_with (first
        | (go_at_call 27; refine (SY.out _).mono ?_; rintro e w1 ⟨hk1, rfl⟩)
        | (go_at_call 20; refine (LV.out _).mono ?_; rintro e w3 ⟨rfl, hk3⟩))
      go_ret
      exact ⟨rfl, hk1.trans hk3⟩
    · have s2 : k > 5 := by omega
      clear h
      go_enter Tryd.func4, Tryd.ntmps4
      go_wp2_with (first
        | (go_at_call 27; refine (SY.out _).mono ?_; rintro e w1 ⟨hk1, rfl⟩)
        | (go_at_call 20; refine (LV.out _).mono ?_; rintro e w3 ⟨rfl, hk3⟩))
      go_ret
      exact ⟨rfl, hk1.trans hk3⟩
end Go.Proofs.YtofgadehblpoiaaDoor
