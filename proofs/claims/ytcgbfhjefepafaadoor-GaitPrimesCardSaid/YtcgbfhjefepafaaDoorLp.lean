/-
  GaitPrimes.
-/
import Derived.Test.YtcgbfhjefepafaaDoorLv
import Derived.Test.YtcgbfhjefepafaaDoorPb
namespace Go.Proofs.YtcgbfhjefepafaaDoor
open Go.RowKit Go.Deep Go.Shelf

theorem sameS_refl (n : Nat) (S : Nat → ByteArray) : sameS n S n S = true := by
  unfold sameS
  rw [decide_eq_true rfl, Bool.true_and, allN_true]
  exact fun i _ => decide_eq_true rfl
set_option maxRecDepth 100000 in
set_option maxHeartbeats 8000000 in
theorem primes_any (w : World) (p : Int) : Calls Tryd.prog 7 #[.int .i64 p] w (LivesPost w) := by
  have LE := Lib.hid (fun W => Legendre_any W p)
  have PA := Lib.hid (fun W => Paley_any W p)
  have LV := Lib.hid lives_any
  unfold LegAns at LE
  unfold PalAns at PA
  by_cases h1 : 3 ≤ p ∧ p ≤ 61
  · obtain ⟨n, rfl⟩ : ∃ n : Nat, p = n := ⟨p.toNat, by omega⟩
    have IP := Lib.hid (fun W => rPrime_any W n (by omega) (by omega))
    have RL := Lib.hid (fun W => rLegendre_any W n (by omega) (by omega))
    have s1 : ¬ (n : Int) < 3 := by omega
    have s2 : ¬ (n : Int) > 61 := by omega
    have hlo : legOk (n : Int) = primeB n := by unfold legOk; rw [decide_eq_true h1, Int.toNat_natCast]; rfl
    obtain ⟨q, HQ⟩ : ∃ q : Nat, Hid (q = n % 4) := ⟨_, rfl⟩
    have em : Int.tmod (n : Int) 4 = (q : Int) := by rw [HQ.out]; exact (Int.ofNat_tmod n 4).symm
    have hpo : palOk (n : Int) = (decide ((n : Int) ≤ 31) && (q == 3) && primeB n) := by
      unfold palOk
      rw [Int.toNat_natCast, HQ.out]
      congr 2
      exact decide_eq_decide.2 ⟨fun h => h.2, fun h => ⟨h1.1, h⟩⟩
    rw [hlo, Int.toNat_natCast] at LE
    rw [hpo, Int.toNat_natCast] at PA
    cases hb : primeB n with
    | false =>
      rw [hb] at IP
      simp only [hb, Bool.and_false, Bool.false_eq_true, if_false] at LE PA
      clear hlo hpo hb RL
      go_enter Tryd.func7, Tryd.ntmps7
      go_wp2_with (first
        | (go_at_call 35; refine (LE.out _).mono ?_; rintro e w1 ⟨hk1, rfl⟩)
        | (go_at_call 36; refine (PA.out _).mono ?_; rintro e w2 ⟨hk2, rfl⟩)
        | (go_at_call 37; refine (IP.out _).mono ?_; rintro e w4 ⟨rfl, rfl⟩)
        | (go_at_call 20; refine (LV.out _).mono ?_; rintro e w3 ⟨rfl, hk3⟩))
      go_ret
      exact ⟨rfl, (hk1.trans hk2).trans hk3⟩
    | true =>
      rw [hb] at IP
      simp only [hb, Bool.and_true, if_true] at LE PA
      obtain ⟨S, HS⟩ : ∃ S, Hid (S = rowS n (legP n)) := ⟨_, rfl⟩
      rw [← HS.out] at LE RL
      have e1 := beq_yes (rfl : S = S)
      by_cases h31 : n ≤ 31
      · have s3 : ¬ (n : Int) > 31 := by omega
        rw [decide_eq_true (show (n : Int) ≤ 31 by omega), Bool.true_and] at PA
        by_cases h3 : q = 3
        · have e3 : ((q : Int) != 3) = false := by simp; omega
          have e4 : (q == 3) = true := by simp [h3]
          simp only [e4, if_true] at PA
          have RP := Lib.hid (fun W => rPaley_any W n (by omega) (by omega))
          unfold StrsPost at RP
          have hn1 : n + 1 ≤ 1000000 := by omega
          clear hlo hpo hb e4 h3 HQ h1
          go_enter Tryd.func7, Tryd.ntmps7
          go_wp2_with (first
            | (go_at_call 35; refine (LE.out _).mono ?_; rintro e w1 ⟨hk1, rfl⟩)
            | (go_at_call 36; refine (PA.out _).mono ?_; rintro e w2 ⟨hk2, v, rfl, hO⟩; obtain ⟨va, vcap, rfl⟩ := own_shape hO)
            | (go_at_call 37; refine (IP.out _).mono ?_; rintro e w4 ⟨rfl, rfl⟩)
            | (go_at_call 38; refine (RL.out _).mono ?_; rintro e w5 ⟨rfl, rfl⟩)
            | (go_at_call 20; refine (LV.out _).mono ?_; rintro e w3 ⟨rfl, hk3⟩)
            | (go_at_call 40; refine (RP.out _).mono ?_; rintro e w6 ⟨v2, rfl, hk6, hO2⟩; obtain ⟨va2, vcap2, rfl⟩ := own_shape hO2)
            | (go_at_call 39; refine (sameS_any _ _ _ _ _ _ _ (strs_own (own_kept (own_kept hO hk3) hk6)) (strs_own hO2) hn1 hn1).mono ?_; rintro e w7 ⟨rfl, hq7⟩; rw [sameS_refl]))
          go_ret
          exact ⟨rfl, ((hk1.trans hk2).trans hk3).trans (hk6.trans hq7.kept)⟩
        · have e3 : ((q : Int) != 3) = true := by simp; omega
          have e4 : (q == 3) = false := by simp [h3]
          simp only [e4, Bool.false_eq_true, if_false] at PA
          clear hlo hpo hb e4 h3 HQ h1
          go_enter Tryd.func7, Tryd.ntmps7
          go_wp2_with (first
            | (go_at_call 35; refine (LE.out _).mono ?_; rintro e w1 ⟨hk1, rfl⟩)
            | (go_at_call 36; refine (PA.out _).mono ?_; rintro e w2 ⟨hk2, rfl⟩)
            | (go_at_call 37; refine (IP.out _).mono ?_; rintro e w4 ⟨rfl, rfl⟩)
            | (go_at_call 38; refine (RL.out _).mono ?_; rintro e w5 ⟨rfl, rfl⟩)
            | (go_at_call 20; refine (LV.out _).mono ?_; rintro e w3 ⟨rfl, hk3⟩))
          go_ret
          exact ⟨rfl, (hk1.trans hk2).trans hk3⟩
      · have s3 : (n : Int) > 31 := by omega
        rw [decide_eq_false (show ¬ (n : Int) ≤ 31 by omega), Bool.false_and] at PA
        simp only [Bool.false_eq_true, if_false] at PA
        clear hlo hpo hb HQ h1
        go_enter Tryd.func7, Tryd.ntmps7
        go_wp2_with (first
          | (go_at_call 35; refine (LE.out _).mono ?_; rintro e w1 ⟨hk1, rfl⟩)
          | (go_at_call 36; refine (PA.out _).mono ?_; rintro e w2 ⟨hk2, rfl⟩)
          | (go_at_call 37; refine (IP.out _).mono ?_; rintro e w4 ⟨rfl, rfl⟩)
          | (go_at_call 38; refine (RL.out _).mono ?_; rintro e w5 ⟨rfl, rfl⟩)
          | (go_at_call 20; refine (LV.out _).mono ?_; rintro e w3 ⟨rfl, hk3⟩))
        go_ret
        exact ⟨rfl, (hk1.trans hk2).trans hk3⟩
  · have hlo : legOk p = false := by unfold legOk; rw [decide_eq_false h1]; rfl
    have hpo : palOk p = false := by unfold palOk; rw [decide_eq_false (fun h => h1 ⟨h.1, by omega⟩)]; rfl
    rw [hlo] at LE
    rw [hpo] at PA
    simp only [Bool.false_eq_true, if_false] at LE PA
    clear hlo hpo
    by_cases h3 : p < 3
    · clear h1
      go_enter Tryd.func7, Tryd.ntmps7
      go_wp2_with (first
        | (go_at_call 35; refine (LE.out _).mono ?_; rintro e w1 ⟨hk1, rfl⟩)
        | (go_at_call 36; refine (PA.out _).mono ?_; rintro e w2 ⟨hk2, rfl⟩)
        | (go_at_call 20; refine (LV.out _).mono ?_; rintro e w3 ⟨rfl, hk3⟩))
      go_ret
      exact ⟨rfl, (hk1.trans hk2).trans hk3⟩
    · have s2 : p > 61 := by omega
      clear h1
      go_enter Tryd.func7, Tryd.ntmps7
      go_wp2_with (first
        | (go_at_call 35; refine (LE.out _).mono ?_; rintro e w1 ⟨hk1, rfl⟩)
        | (go_at_call 36; refine (PA.out _).mono ?_; rintro e w2 ⟨hk2, rfl⟩)
        | (go_at_call 20; refine (LV.out _).mono ?_; rintro e w3 ⟨rfl, hk3⟩))
      go_ret
      exact ⟨rfl, (hk1.trans hk2).trans hk3⟩
end Go.Proofs.YtcgbfhjefepafaaDoor
