/-
  The reference of gait: Golay.
-/
import Derived.Test.YtcgbfhjefepafaaDoorMj
import Derived.Test.YtcgbfhjefepafaaDoorMg
namespace Go.Proofs.YtcgbfhjefepafaaDoor
open Go.RowKit Go.Deep Go.Shelf

def RGolPost (w : World) (n : Nat) (e : Ending) (w' : World) : Prop :=
  Kept w w' ∧ if gx n < 2 ^ n then e = .returned (.tuple #[.string (rowN n (gx n)), .string (rowN n (gy n (gx n))), .bool true]) else e = .returned (.tuple #[.string ⟨#[]⟩, .string ⟨#[]⟩, .bool false])
set_option maxRecDepth 100000 in
set_option maxHeartbeats 8000000 in
theorem rGolay_any (w : World) (n : Nat) (hn1 : 1 ≤ n) (hn : n ≤ 10) : Calls Tryd.prog 31 #[.int .i64 n] w (RGolPost w n) := by
  have RO := Lib.hid (fun (W : World) (x : Nat) (h : x < 4611686018427387904) => show Calls Tryd.prog 70 #[.int .i64 n, .int .i64 x] W fun e w' => e = .returned (.string (rowN n x)) ∧ Quiet W w' from rrow_any W n x (by omega) h)
  have IG := Lib.hid (fun (W : World) (x y : Nat) => show Calls Tryd.prog 30 #[.string (rowN n x), .string (rowN n y)] W fun e w' => e = .returned (.bool (gB n x y)) ∧ Kept W w' by
    have h := rIsGolay_any W (rowN n x) (rowN n y) n (rowS_size _ _) (rowS_size _ _) (by omega) (by omega)
    unfold rowN at h ⊢
    rw [golR_rows] at h
    exact h)
  have hN : 2 ^ n ≤ 1024 := by have := Nat.pow_le_pow_right (n := 2) (by omega) hn; omega
  have hpost : Hid (∀ e w', Kept w w' → (if gx n < 2 ^ n then e = .returned (.tuple #[.string (rowN n (gx n)), .string (rowN n (gy n (gx n))), .bool true]) else e = .returned (.tuple #[.string ⟨#[]⟩, .string ⟨#[]⟩, .bool false])) → RGolPost w n e w') := fun e w' h1 h2 => ⟨h1, h2⟩
  have hgx : Hid (gx n = least (fun x => decide (gy n x < 2 ^ n)) (2 ^ n)) := rfl
  have hgy : Hid (∀ x, gy n x = least (fun y => gB n x y) (2 ^ n)) := fun _ => rfl
  obtain ⟨N, HN⟩ : ∃ N : Nat, Hid (N = 2 ^ n) := ⟨2 ^ n, rfl⟩
  have e0 : (2 : Int) ^ n = (N : Int) := by rw [HN.out]; simp
  rw [← HN.out] at hN hgx hpost hgy
  go_enter Tryd.func31, Tryd.ntmps31
  go_wp2_with fail
  go_loopg [5] N (fun g s5 wr => ∃ x : Nat, x ≤ N ∧ g = N - x ∧ s5 = .int .i64 x ∧ Kept w wr ∧ Hid (least (fun x => decide (gy n x < N)) x = x))
  case atStart => exact ⟨0, Nat.zero_le _, rfl, rfl, Kept.refl _, rfl⟩
  case round =>
    obtain ⟨x, hx, rfl, rfl, hK, hA⟩ := hrel
    by_cases hlt : x < N
    · have s1 : (x : Int) < (N : Int) := by omega
      have ROx := Lib.hid (fun W => RO.out W x (by omega))
      obtain ⟨Wo, rfl⟩ : ∃ Wo : World, Wo = wr := ⟨_, rfl⟩
      go_wp2_with fail
      go_loopg [6] N (fun g s6 wi => ∃ y : Nat, y ≤ N ∧ g = N - y ∧ s6 = .int .i64 y ∧ Kept w wi ∧ Hid (least (fun y => gB n x y) y = y))
      case atStart => exact ⟨0, Nat.zero_le _, rfl, rfl, hK, rfl⟩
      case round =>
        obtain ⟨y, hy, rfl, rfl, hKi, hB⟩ := hrel
        by_cases hlt2 : y < N
        · have s4 : (y : Int) < (N : Int) := by omega
          have ROy := Lib.hid (fun W => RO.out W y (by omega))
          have IGx := Lib.hid (fun W => IG.out W x y)
          obtain ⟨b, HBB⟩ : ∃ b, Hid (b = gB n x y) := ⟨_, rfl⟩
          rw [← HBB.out] at IGx
          have hfin : Hid (b = true → gx n = x ∧ gy n x = y) := fun hb => by
            have h1 : gy n x = y := by rw [hgy.out]; exact least_hit hB.out (by rw [← HBB.out]; exact hb) hlt2
            exact ⟨by rw [hgx.out]; exact least_hit hA.out (by simp only [h1, decide_eq_true_eq]; exact hlt2) hlt, h1⟩
          have hnx : Hid (b = false → least (fun y => gB n x y) (y + 1) = y + 1) := fun hb => least_step hB.out (by rw [← HBB.out]; exact hb)
          cases b with
          | true =>
            obtain ⟨hf1, hf2⟩ := hfin.out rfl
            have HF := Lib.hid (show ∀ (e : Ending) (w' : World), Kept w w' → e = .returned (.tuple #[.string (rowN n x), .string (rowN n y), .bool true]) → RGolPost w n e w' from fun e w' hk he => hpost.out e w' hk (by rw [hf1, hf2, if_pos hlt]; exact he))
            clear hf1 hf2 hfin hnx hA hB hpost
            have ROx2 := Lib.hid ROx.out
            have ROy2 := Lib.hid ROy.out
            generalize rowN n x = S at *
            generalize rowN n y = T at *
            go_wp2_with (first | (go_at_call 30; refine (IGx.out _).mono ?_; rintro e w3 ⟨rfl, hk3⟩) | (go_at_call 70; first | (refine (ROx.out _).mono ?_; clear ROx; rintro e w1 ⟨rfl, hq1⟩) | (refine (ROy.out _).mono ?_; clear ROy; rintro e w2 ⟨rfl, hq2⟩) | (refine (ROx2.out _).mono ?_; clear ROx2; rintro e w4 ⟨rfl, hq4⟩) | (refine (ROy2.out _).mono ?_; rintro e w5 ⟨rfl, hq5⟩)))
            go_ret3
            exact HF.out _ _ (((((hKi.trans hq1.kept).trans hq2.kept).trans hk3).trans hq4.kept).trans hq5.kept) rfl
          | false =>
            have hB2 : Hid (least (fun y => gB n x y) (y + 1) = y + 1) := hnx.out rfl
            clear hfin hnx hA hB hpost
            generalize rowN n x = S at *
            generalize rowN n y = T at *
            go_wp2_with (first | (go_at_call 30; refine (IGx.out _).mono ?_; rintro e w3 ⟨rfl, hk3⟩) | (go_at_call 70; first | (refine (ROx.out _).mono ?_; clear ROx; rintro e w1 ⟨rfl, hq1⟩) | (refine (ROy.out _).mono ?_; clear ROy; rintro e w2 ⟨rfl, hq2⟩)))
            go_roundg (N - (y + 1))
            case measure => omega
            case rel => exact ⟨y + 1, by omega, rfl, by first | rfl | go_num, ((hKi.trans hq1.kept).trans hq2.kept).trans hk3, hB2.out⟩
        · obtain rfl : y = N := by omega
          have s4 : ¬ (y : Int) < (y : Int) := by omega
          have hA2 : Hid (least (fun x => decide (gy n x < y)) (x + 1) = x + 1) := least_step hA.out (by rw [hgy.out, hB.out]; simp)
          clear hA hB hpost
          go_wp2_with fail
          go_roundg (y - (x + 1))
          case measure => omega
          case rel => exact ⟨x + 1, by omega, rfl, by first | rfl | go_num, hKi, hA2.out⟩
    · obtain rfl : x = N := by omega
      have s1 : ¬ (x : Int) < (x : Int) := by omega
      have hno : Hid (¬ gx n < x) := by show ¬ _; rw [hgx.out, hA.out]; omega
      clear hA
      go_wp2_with fail
      go_ret3
      exact hpost.out _ _ hK (by rw [if_neg hno.out]; rfl)
end Go.Proofs.YtcgbfhjefepafaaDoor
