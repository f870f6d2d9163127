/-
  GaitBarkers.
-/
import Derived.Test.YtcgbfhjefepafaaDoorLv
import Derived.Test.YtcgbfhjefepafaaDoorRe
namespace Go.Proofs.YtcgbfhjefepafaaDoor
open Go.RowKit Go.Deep Go.Shelf

set_option maxRecDepth 100000 in
set_option maxHeartbeats 4000000 in
theorem barkers_any (w : World) (n : Int) : Calls Tryd.prog 4 #[.int .i64 n] w (LivesPost w) := by
  have BA := Lib.hid (fun W => Barker_any W n)
  have LV := Lib.hid lives_any
  unfold BarAns at BA
  by_cases h1 : 1 ≤ n ∧ n ≤ 13
  · obtain ⟨m, rfl⟩ : ∃ m : Nat, n = m := ⟨n.toNat, by omega⟩
    have RB := Lib.hid (fun W => rBarker_any W m (by omega) (by omega))
    unfold RBarPost at RB
    simp only [if_pos h1, Int.toNat_natCast] at BA
    have s1 : (1 : Int) ≤ (m : Int) := h1.1
    have s2 : (m : Int) ≤ 13 := h1.2
    by_cases h2 : bx m < 2 ^ m
    · simp only [if_pos h2] at BA RB
      generalize rowN m (bx m) = S at *
      have e1 := beq_yes (rfl : S = S)
      clear h1 h2
      go_enter Tryd.func4, Tryd.ntmps4
      go_wp2_with (first
        | (go_at_call 27; refine (BA.out _).mono ?_; rintro e w1 ⟨hk1, rfl⟩)
        | (go_at_call 28; refine (RB.out _).mono ?_; rintro e w2 ⟨hk2, rfl⟩)
        | (go_at_call 20; refine (LV.out _).mono ?_; rintro e w3 ⟨rfl, hk3⟩))
      go_ret
      exact ⟨rfl, (hk1.trans hk2).trans hk3⟩
    · simp only [if_neg h2] at BA RB
      clear h1 h2
      go_enter Tryd.func4, Tryd.ntmps4
      go_wp2_with (first
        | (go_at_call 27; refine (BA.out _).mono ?_; rintro e w1 ⟨hk1, rfl⟩)
        | (go_at_call 28; refine (RB.out _).mono ?_; rintro e w2 ⟨hk2, rfl⟩)
        | (go_at_call 20; refine (LV.out _).mono ?_; rintro e w3 ⟨rfl, hk3⟩))
      go_ret
      exact ⟨rfl, (hk1.trans hk2).trans hk3⟩
  · simp only [if_neg h1] at BA
    by_cases h2 : 1 ≤ n
    · have s2 : ¬ n ≤ 13 := fun h => h1 ⟨h2, h⟩
      clear h1
      go_enter Tryd.func4, Tryd.ntmps4
      go_wp2_with (first
        | (go_at_call 27; refine (BA.out _).mono ?_; rintro e w1 ⟨hk1, rfl⟩)
        | (go_at_call 20; refine (LV.out _).mono ?_; rintro e w3 ⟨rfl, hk3⟩))
      go_ret
      exact ⟨rfl, hk1.trans hk3⟩
    · clear h1
      go_enter Tryd.func4, Tryd.ntmps4
      go_wp2_with (first
        | (go_at_call 27; refine (BA.out _).mono ?_; rintro e w1 ⟨hk1, rfl⟩)
        | (go_at_call 20; refine (LV.out _).mono ?_; rintro e w3 ⟨rfl, hk3⟩))
      go_ret
      exact ⟨rfl, hk1.trans hk3⟩
end Go.Proofs.YtcgbfhjefepafaaDoor
