/-
  The reference of gait: Barker.
-/
import Derived.Test.YtcgbfhjefepafaaDoorRd
import Derived.Test.YtcgbfhjefepafaaDoorGo
namespace Go.Proofs.YtcgbfhjefepafaaDoor
open Go.RowKit Go.Deep Go.Shelf

def RBarPost (w : World) (n : Nat) (e : Ending) (w' : World) : Prop :=
  Kept w w' ∧ if bx n < 2 ^ n then e = .returned (.tuple #[.string (rowN n (bx n)), .bool true]) else e = .returned (.tuple #[.string ⟨#[]⟩, .bool false])
set_option maxRecDepth 100000 in
set_option maxHeartbeats 8000000 in
theorem rBarker_any (w : World) (n : Nat) (hn1 : 1 ≤ n) (hn : n ≤ 13) : Calls Tryd.prog 28 #[.int .i64 n] w (RBarPost w n) := by
  have RO := Lib.hid (fun (W : World) (x : Nat) (h : x < 4611686018427387904) => rrow_any W n x (by omega) h)
  have LK := Lib.hid (fun (W : World) (x : Nat) => rLike_any W (rowS n (bitP n x)) n (rowS_size _ _) (by omega))
  have IW := Lib.hid (fun W x => rin_any W x (-1) 1)
  have hN : 2 ^ n ≤ 8192 := by have := Nat.pow_le_pow_right (n := 2) (by omega) hn; omega
  have hbx : Hid (bx n = least (barB n) (2 ^ n)) := rfl
  have hpost : Hid (∀ e w', Kept w w' → (if bx n < 2 ^ n then e = .returned (.tuple #[.string (rowN n (bx n)), .bool true]) else e = .returned (.tuple #[.string ⟨#[]⟩, .bool false])) → RBarPost w n e w') := fun e w' h1 h2 => ⟨h1, h2⟩
  obtain ⟨N, HN⟩ : ∃ N : Nat, Hid (N = 2 ^ n) := ⟨2 ^ n, rfl⟩
  have e0 : (2 : Int) ^ n = (N : Int) := by rw [HN.out]; simp
  rw [← HN.out] at hN hbx hpost
  unfold IntsPost at LK
  go_enter Tryd.func28, Tryd.ntmps28
  go_wp2_with fail
  go_loopg [4] N (fun g s4 wr => ∃ x : Nat, x ≤ N ∧ g = N - x ∧ s4 = .int .i64 x ∧ Kept w wr ∧ Hid (least (barB n) x = x))
  case atStart => exact ⟨0, Nat.zero_le _, rfl, rfl, Kept.refl _, rfl⟩
  case round =>
    obtain ⟨x, hx, rfl, rfl, hK, hA⟩ := hrel
    by_cases hlt : x < N
    · have s1 : (x : Int) < (N : Int) := by omega
      have ROx := Lib.hid (fun W => RO.out W x (by omega))
      have LKx := Lib.hid (fun W => LK.out W x)
      have hbar : Hid (barB n x = barF (fun k => likeN n (bitP n x) k) n) := rfl
      have hlik : Hid (∀ k, k ≤ n → likR (rowS n (bitP n x)) k (n - k) = likeN n (bitP n x) k) := fun k hk => likR_row n k _ hk
      obtain ⟨f, HF⟩ : ∃ f : Nat → Int, Hid (f = fun k => likR (rowS n (bitP n x)) k (n - k)) := ⟨_, rfl⟩
      rw [← HF.out] at LKx
      have hfk : Hid (∀ k, k ≤ n → f k = likeN n (bitP n x) k) := fun k hk => by rw [HF.out]; exact hlik.out k hk
      go_wp2_with (first | (go_at_call 70; refine (ROx.out _).mono ?_; rintro e w1 ⟨rfl, hq1⟩) | (go_at_call 22; refine (LKx.out _).mono ?_; rintro e w2 ⟨v, rfl, hk2, hO⟩; have hI := ints_own hO; obtain ⟨a, b, o, cap, rfl, ha, hc⟩ := hI; have HC := Lib.hid hc; clear hc))
      have hK2 : Kept w w2 := (hK.trans hq1.kept).trans hk2
      have hbf : Hid (barB n x = barF f n) := by
        show _ = _
        rw [hbar.out]
        exact barF_congr (fun k hk => (hfk.out k (by omega)).symm)
      clear hq1 hk2 hO HF hlik hfk hbar hK
      have hstop : Hid (∀ k, k ≤ n → barF f k = false → barF f n = false) := fun k hk h => by
        cases e : barF f n
        · rfl
        · unfold barF at e h
          have : allN (fun k => decide (k = 0) || decide (-1 ≤ f k ∧ f k ≤ 1)) k = true := allN_true.2 (fun i hi => allN_true.1 e i (by omega))
          rw [this] at h
          cases h
      go_loopg [7, 8] n (fun g s7 s8 wr => ∃ (k : Nat) (b : Bool), 1 ≤ k ∧ k ≤ n ∧ g + k = n + 1 ∧ s8 = .int .i64 k ∧ s7 = .bool b ∧ w2 = wr ∧ Hid (b = barF f k))
      case atStart => exact ⟨1, true, by omega, by omega, by omega, rfl, rfl, rfl, by show _ = _; simp [barF, allN]⟩
      case round =>
        obtain ⟨k, b, hk1, hk, hg, rfl, rfl, rfl, hB⟩ := hrel
        cases b with
        | true =>
          by_cases hkn : k < n
          · obtain rfl := ha (by omega)
            have t0 := HC.out k hkn
            have s2 : (k : Int) < (n : Int) := by omega
            have s3 : (0 : Int) ≤ (k : Int) := by omega
            have hnx : Hid (barF f (k + 1) = decide (-1 ≤ f k ∧ f k ≤ 1)) := by
              show _ = _
              have : barF f (k + 1) = (barF f k && (decide (k = 0) || decide (-1 ≤ f k ∧ f k ≤ 1))) := rfl
              rw [this, ← hB.out, decide_eq_false (show ¬ k = 0 by omega)]
              simp
            generalize f k = y at *
            have IWy := Lib.hid (fun W => IW.out W y)
            generalize decide (-1 ≤ y ∧ y ≤ 1) = c at *
            clear hB
            go_wp2_with (go_at_call 71; refine (IWy.out _).mono ?_; rintro e w3 ⟨rfl, rfl⟩)
            go_roundg (n + 1 - (k + 1))
            case measure => omega
            case rel => exact ⟨k + 1, c, by omega, by omega, by omega, by first | rfl | go_num, rfl, rfl, hnx.out.symm⟩
          · obtain rfl : k = n := by omega
            have s2 : ¬ (k : Int) < (k : Int) := by omega
            have hyes : Hid (bx k = x ∧ x < N) := by
              refine ⟨?_, hlt⟩
              rw [hbx.out]
              exact least_hit hA.out (by rw [hbf.out, ← hB.out]) hlt
            have hf := Lib.hid (hpost.out (.returned (.tuple #[.string (rowS k (bitP k x)), .bool true])) w2 hK2 (by rw [hyes.out.1, if_pos hyes.out.2]; rfl))
            clear hA hB hyes hbf hpost
            generalize rowS k (bitP k x) = S at *
            go_wp2_with fail
            go_ret2
            exact hf.out
        | false =>
          have hA2 : Hid (least (barB n) (x + 1) = x + 1) := least_step hA.out (by rw [hbf.out]; exact hstop.out k hk hB.out.symm)
          clear hA hB hbf
          by_cases hkn : k < n
          · have s2 : (k : Int) < (n : Int) := by omega
            go_wp2_with fail
            go_roundg (N - (x + 1))
            case measure => omega
            case rel => exact ⟨x + 1, by omega, rfl, by first | rfl | go_num, hK2, hA2.out⟩
          · have s2 : ¬ (k : Int) < (n : Int) := by omega
            go_wp2_with fail
            go_roundg (N - (x + 1))
            case measure => omega
            case rel => exact ⟨x + 1, by omega, rfl, by first | rfl | go_num, hK2, hA2.out⟩
    · obtain rfl : x = N := by omega
      have s1 : ¬ (x : Int) < (x : Int) := by omega
      have hno : Hid (¬ bx n < x) := by show ¬ _; rw [hbx.out, hA.out]; omega
      clear hA
      go_wp2_with fail
      go_ret2
      exact hpost.out _ _ hK (by rw [if_neg hno.out]; rfl)
end Go.Proofs.YtcgbfhjefepafaaDoor
