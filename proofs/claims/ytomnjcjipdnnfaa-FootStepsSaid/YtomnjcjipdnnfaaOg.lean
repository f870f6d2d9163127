/-
  The law FootSteps: its walk.
-/
import Derived.Test.YtomnjcjipdnnfaaOf
namespace Go.Proofs.Ytomnjcjipdnnfaa
open Go.RowKit Go.Deep

set_option maxRecDepth 100000 in
set_option maxHeartbeats 8000000 in
theorem stepsLaw_any (w : World) (m n : Int) :
    Calls Try.prog 9 #[.int .i64 m, .int .i64 n] w (LivesPost w) := by
  have LV := Lib.hid (fun W => lives_any W)
  by_cases hgood : 1 ≤ m ∧ m ≤ 30 ∧ 1 ≤ n ∧ n ≤ 30
  · obtain ⟨g1, g2, g3, g4⟩ := hgood
    obtain ⟨M, rfl⟩ := Int.eq_ofNat_of_zero_le (show 0 ≤ m by omega)
    obtain ⟨N, rfl⟩ := Int.eq_ofNat_of_zero_le (show 0 ≤ n by omega)
    have hb := del_lt (i := M - 1) (j := N - 1) (by omega) (by omega)
    have h60 := ten60
    have PS := fun W => Steps_good W M N (by omega) (by omega) (by omega) (by omega)
    have RS := fun W => rSteps_any W M N (by omega) (by omega) (by omega) (by omega)
    have IS := fun W v (hq : QAt W v (del (M - 1) (N - 1)) 1) => Is_any W v _ hq (by omega) (by omega)
    obtain ⟨S, HS⟩ : ∃ S, Hid (S = dstr (del (M - 1) (N - 1))) := ⟨_, rfl⟩
    obtain ⟨X, HX⟩ : ∃ X, Hid (X = del (M - 1) (N - 1)) := ⟨_, rfl⟩
    rw [← HS.out] at PS IS
    rw [← HX.out] at RS IS
    have PS := Lib.hid PS
    have RS := Lib.hid RS
    have IS := Lib.hid IS
    have INT := Lib.hid (fun (W : World) => Int_posT W 1 (by omega) (by decide))
    clear hb h60
    go_enter Try.func9, Try.ntmps9
    go_wp2_with (first | (go_at_call 34; refine (PS.out _).mono ?_; rintro e w1 ⟨rfl, hk1⟩) | (go_at_call 36; refine (RS.out _).mono ?_; rintro e w2 ⟨v2, rfl, hz2, hk2⟩; obtain ⟨m2, a2, l2, c2, rfl⟩ := hz2.shape) | (go_at_call 37; refine (INT.out _).mono ?_; rintro e w3 ⟨v3, rfl, hz3, _, hk3⟩; obtain ⟨m3, a3, l3, c3, rfl⟩ := hz3.shape) | (go_at_call 35; refine (IS.out _ _ ⟨m2, _, m3, _, rfl, hz2.kept (by repeat (first | assumption | exact Kept.refl _ | apply Kept.drew | apply Kept.drewN | apply Kept.alloc | refine Kept.trans ?_ (by assumption))), hz3.kept (by repeat (first | assumption | exact Kept.refl _ | apply Kept.drew | apply Kept.drewN | apply Kept.alloc | refine Kept.trans ?_ (by assumption)))⟩).mono ?_; rintro e w4 ⟨rfl, hk4⟩) | (go_at_call 19; refine (LV.out _).mono ?_; rintro e w5 ⟨rfl, hk5⟩))
    all_goals (try go_wp2_with fail)
    go_ret
    exact ⟨rfl, (by repeat (first | assumption | exact Kept.refl _ | apply Kept.drew | apply Kept.drewN | apply Kept.alloc | refine Kept.trans ?_ (by assumption)))⟩
  · have PS := Lib.hid (fun W => Steps_no W m n hgood)
    by_cases b1 : m < 1
    · clear hgood
      go_enter Try.func9, Try.ntmps9
      go_wp2_with (first | (go_at_call 34; refine (PS.out _).mono ?_; rintro e w1 ⟨rfl, hk1⟩) | (go_at_call 19; refine (LV.out _).mono ?_; rintro e w5 ⟨rfl, hk5⟩))
      all_goals (try go_wp2_with fail)
      go_ret
      exact ⟨rfl, (by repeat (first | assumption | exact Kept.refl _ | apply Kept.drew | apply Kept.drewN | apply Kept.alloc | refine Kept.trans ?_ (by assumption)))⟩
    by_cases b2 : 30 < m
    · clear hgood
      go_enter Try.func9, Try.ntmps9
      go_wp2_with (first | (go_at_call 34; refine (PS.out _).mono ?_; rintro e w1 ⟨rfl, hk1⟩) | (go_at_call 19; refine (LV.out _).mono ?_; rintro e w5 ⟨rfl, hk5⟩))
      all_goals (try go_wp2_with fail)
      go_ret
      exact ⟨rfl, (by repeat (first | assumption | exact Kept.refl _ | apply Kept.drew | apply Kept.drewN | apply Kept.alloc | refine Kept.trans ?_ (by assumption)))⟩
    by_cases b3 : n < 1
    · clear hgood
      go_enter Try.func9, Try.ntmps9
      go_wp2_with (first | (go_at_call 34; refine (PS.out _).mono ?_; rintro e w1 ⟨rfl, hk1⟩) | (go_at_call 19; refine (LV.out _).mono ?_; rintro e w5 ⟨rfl, hk5⟩))
      all_goals (try go_wp2_with fail)
      go_ret
      exact ⟨rfl, (by repeat (first | assumption | exact Kept.refl _ | apply Kept.drew | apply Kept.drewN | apply Kept.alloc | refine Kept.trans ?_ (by assumption)))⟩
    have b4 : 30 < n := by omega
    clear hgood
    go_enter Try.func9, Try.ntmps9
    go_wp2_with (first | (go_at_call 34; refine (PS.out _).mono ?_; rintro e w1 ⟨rfl, hk1⟩) | (go_at_call 19; refine (LV.out _).mono ?_; rintro e w5 ⟨rfl, hk5⟩))
    all_goals (try go_wp2_with fail)
    go_ret
    exact ⟨rfl, (by repeat (first | assumption | exact Kept.refl _ | apply Kept.drew | apply Kept.drewN | apply Kept.alloc | refine Kept.trans ?_ (by assumption)))⟩
end Go.Proofs.Ytomnjcjipdnnfaa
