/-
  HerdMantel.
-/
import Derived.Test.YtfbiinjpljmapaaDoorIm
import Derived.Test.YtfbiinjpljmapaaDoorHr
namespace Go.Proofs.YtfbiinjpljmapaaDoor
open Go.RowKit Go.Deep

theorem mantel_kk {k : Nat} (hk2 : k ≤ 1000) : ∃ A : Int, (k : Int) * (k : Int) = A ∧ (wrap64 A = A ∧ IntKind.i64.wrap A = A) ∧ Int.tdiv A 4 = mostN k 2 ∧ A / 4 = mostN k 2 ∧ wrap64 (mostN k 2) = mostN k 2 ∧ IntKind.i64.wrap (mostN k 2) = mostN k 2 := by
  have h1 : k * k ≤ 1000 * 1000 := Nat.mul_le_mul hk2 hk2
  have h2 := most_two k
  generalize e : k * k = a at h1 h2
  refine ⟨(a : Int), by rw [← e]; exact (Int.natCast_mul k k).symm, ⟨IntWalk.wrap64_in _ (by omega), IntWalk.i64_in _ (by omega)⟩, ?_, ?_, ?_, ?_⟩
  · rw [h2, Int.tdiv_eq_ediv_of_nonneg (Int.natCast_nonneg a)]; exact (Int.natCast_ediv a 4).symm
  · rw [h2]; exact (Int.natCast_ediv a 4).symm
  · rw [h2]; exact IntWalk.wrap64_in _ (by omega)
  · rw [h2]; exact IntWalk.i64_in _ (by omega)
theorem mantel_k1 {k : Nat} (hk1 : 1 ≤ k) (hk2 : k ≤ 1000) : ∃ B : Int, (k : Int) * ((k : Int) - 1) = B ∧ (wrap64 B = B ∧ IntKind.i64.wrap B = B) ∧ ∀ p, 1 ≤ p → k ≤ p → Int.tdiv B 2 = mostN k p ∧ B / 2 = mostN k p ∧ wrap64 (mostN k p) = mostN k p ∧ IntKind.i64.wrap (mostN k p) = mostN k p := by
  have h1 : k * (k - 1) ≤ 1000 * 1000 := Nat.mul_le_mul hk2 (by omega)
  have h2 : ∀ p, 1 ≤ p → k ≤ p → mostN k p = ((k * (k - 1) / 2 : Nat) : Int) := fun p h3 h4 => most_many (by omega) h4
  have e1 : (k : Int) * ((k : Int) - 1) = ((k * (k - 1) : Nat) : Int) := by
    rw [Int.natCast_mul, Int.ofNat_sub hk1]
    rfl
  generalize e : k * (k - 1) = b at h1 h2 e1
  refine ⟨(b : Int), e1, ⟨IntWalk.wrap64_in _ (by omega), IntWalk.i64_in _ (by omega)⟩, fun p h3 h4 => ⟨?_, ?_, ?_, ?_⟩⟩
  · rw [h2 p h3 h4, Int.tdiv_eq_ediv_of_nonneg (Int.natCast_nonneg b)]; exact (Int.natCast_ediv b 2).symm
  · rw [h2 p h3 h4]; exact (Int.natCast_ediv b 2).symm
  · rw [h2 p h3 h4]; exact IntWalk.wrap64_in _ (by omega)
  · rw [h2 p h3 h4]; exact IntWalk.i64_in _ (by omega)
theorem most_call (W : World) (n r : Nat) (h1 : 1 ≤ n) (h2 : n ≤ 1000) (h3 : 1 ≤ r) (h4 : r ≤ 1000) : Calls Tryd.prog 19 #[.int .i64 n, .int .i64 r] W fun e w' => e = .returned (.tuple #[.int .i64 (mostN n r), .int .i64 0]) ∧ W = w' := by
  have h := Most_any W n r
  have e : (withinB (n : Int) 1000 && withinB (r : Int) 1000) = true := by
    unfold withinB
    simp
    omega
  rw [if_pos e, Int.toNat_natCast, Int.toNat_natCast] at h
  exact h
set_option maxRecDepth 100000 in
set_option maxHeartbeats 8000000 in
theorem mantel_any (w : World) (a b : Nat) (ha : a < 65536) (hb : b < 65536) : Calls Tryd.prog 8 #[.int .u16 a, .int .u16 b] w (LivesPost w) := by
  have LV := Lib.hid lives_any
  obtain ⟨x, HXd⟩ : ∃ x : Nat, Hid (x = a % 1000) := ⟨_, rfl⟩
  obtain ⟨y, HYd⟩ : ∃ y : Nat, Hid (y = b % 1000) := ⟨_, rfl⟩
  have hx : x < 1000 := by rw [HXd.out]; exact Nat.mod_lt _ (by omega)
  have hy : y < 1000 := by rw [HYd.out]; exact Nat.mod_lt _ (by omega)
  have ex : Int.tmod (a : Int) 1000 = (x : Int) := by rw [HXd.out]; exact (Int.ofNat_tmod a 1000).symm
  have ey : Int.tmod (b : Int) 1000 = (y : Int) := by rw [HYd.out]; exact (Int.ofNat_tmod b 1000).symm
  have ex2 : (a : Int) % 1000 = (x : Int) := by rw [HXd.out]; exact (Int.natCast_emod a 1000).symm
  have ey2 : (b : Int) % 1000 = (y : Int) := by rw [HYd.out]; exact (Int.natCast_emod b 1000).symm
  clear HXd HYd
  obtain ⟨k, hk⟩ : ∃ k, k = x + 1 := ⟨_, rfl⟩
  obtain ⟨p, hp⟩ : ∃ p, p = y + 1 := ⟨_, rfl⟩
  have ek : (x : Int) + 1 = (k : Int) := by omega
  have ep : (y : Int) + 1 = (p : Int) := by omega
  have hk1 : 1 ≤ k := by omega
  have hk2 : k ≤ 1000 := by omega
  have hp1 : 1 ≤ p := by omega
  have hp2 : p ≤ 1000 := by omega
  clear hk hp
  obtain ⟨A, c1, ⟨v1, v2⟩, t1, t2, t3, t4⟩ := mantel_kk hk2
  obtain ⟨B, c2, ⟨v3, v4⟩, hmany⟩ := mantel_k1 hk1 hk2
  have u1 : wrap64 ((k : Int) * (k : Int)) = A := by rw [c1]; exact v1
  have u2 : IntKind.i64.wrap ((k : Int) * (k : Int)) = A := by rw [c1]; exact v2
  have u3 : wrap64 ((k : Int) * ((k : Int) - 1)) = B := by rw [c2]; exact v3
  have u4 : IntKind.i64.wrap ((k : Int) * ((k : Int) - 1)) = B := by rw [c2]; exact v4
  clear c1 c2 v1 v2 v3 v4
  have M1 := Lib.hid (fun W => show Calls Tryd.prog 19 #[.int .i64 k, .int .i64 2] W fun e w' => e = .returned (.tuple #[.int .i64 (mostN k 2), .int .i64 0]) ∧ W = w' from most_call W k 2 hk1 hk2 (by omega) (by omega))
  have M2 := Lib.hid (fun W => most_call W k p hk1 hk2 hp1 hp2)
  have hD : ∃ d, mostN k p ≤ d ∧ Hid (∀ W, Calls Tryd.prog 19 #[.int .i64 k, .int .i64 (min ((p : Int) + 1) 1000)] W fun e w' => e = .returned (.tuple #[.int .i64 d, .int .i64 0]) ∧ W = w') := by
    by_cases h : p = 1000
    · refine ⟨_, Int.le_refl _, fun W => ?_⟩
      have e : min ((p : Int) + 1) 1000 = ((p : Nat) : Int) := by omega
      rw [e]
      exact most_call W k p hk1 hk2 (by omega) (by omega)
    · refine ⟨_, most_mono (n := k) (r := p) (by omega), fun W => ?_⟩
      have e : min ((p : Int) + 1) 1000 = ((p + 1 : Nat) : Int) := by omega
      rw [e]
      exact most_call W k (p + 1) hk1 hk2 (by omega) (by omega)
  have hB : Hid ((k ≤ p ∧ Int.tdiv B 2 = mostN k p ∧ B / 2 = mostN k p ∧ wrap64 (mostN k p) = mostN k p ∧ IntKind.i64.wrap (mostN k p) = mostN k p) ∨ p < k) := by
    by_cases h : k ≤ p
    · exact Or.inl ⟨h, hmany p hp1 h⟩
    · exact Or.inr (by omega)
  have hC : Hid ((p = 1 ∧ mostN k p = 0) ∨ 1 < p) := by
    by_cases h : p = 1
    · exact Or.inl ⟨h, by rw [h]; exact most_one k⟩
    · exact Or.inr (by omega)
  clear hmany
  obtain ⟨d, c3, M3⟩ := hD
  generalize mostN k 2 = m at *
  generalize mostN k p = c at *
  have HB := hB.out
  have HCC := hC.out
  clear hB hC
  rcases HB with ⟨h2, h3, h4, h7, h8⟩ | h2
  · rcases HCC with ⟨h5, h6⟩ | h5
    · skip
      have f3 : ¬ (p : Int) < (k : Int) := by omega
      have f4 : ¬ (p : Int) > 1 := by omega
      have f5 : (c == 0) = true := by simp [h6]
      clear h2 h5 h6
      go_enter Tryd.func8, Tryd.ntmps8
      go_wp2_with (first
        | (go_at_call 19; refine (M1.out _).mono ?_; clear M1; rintro e w1 ⟨rfl, rfl⟩)
        | (go_at_call 19; refine (M2.out _).mono ?_; clear M2; rintro e w2 ⟨rfl, rfl⟩)
        | (go_at_call 19; refine (M3.out _).mono ?_; rintro e w3 ⟨rfl, rfl⟩)
        | (go_at_call 14; refine (LV.out _).mono ?_; rintro e w4 ⟨rfl, hk4⟩))
      go_ret
      exact ⟨rfl, hk4⟩
    · skip
      have f3 : ¬ (p : Int) < (k : Int) := by omega
      have f4 : (p : Int) > 1 := by omega
      clear h2 h5
      go_enter Tryd.func8, Tryd.ntmps8
      go_wp2_with (first
        | (go_at_call 19; refine (M1.out _).mono ?_; clear M1; rintro e w1 ⟨rfl, rfl⟩)
        | (go_at_call 19; refine (M2.out _).mono ?_; clear M2; rintro e w2 ⟨rfl, rfl⟩)
        | (go_at_call 19; refine (M3.out _).mono ?_; rintro e w3 ⟨rfl, rfl⟩)
        | (go_at_call 14; refine (LV.out _).mono ?_; rintro e w4 ⟨rfl, hk4⟩))
      go_ret
      exact ⟨rfl, hk4⟩
  · rcases HCC with ⟨h5, h6⟩ | h5
    · skip
      have f3 : (p : Int) < (k : Int) := by omega
      have f4 : ¬ (p : Int) > 1 := by omega
      have f5 : (c == 0) = true := by simp [h6]
      clear h2 h5 h6
      go_enter Tryd.func8, Tryd.ntmps8
      go_wp2_with (first
        | (go_at_call 19; refine (M1.out _).mono ?_; clear M1; rintro e w1 ⟨rfl, rfl⟩)
        | (go_at_call 19; refine (M2.out _).mono ?_; clear M2; rintro e w2 ⟨rfl, rfl⟩)
        | (go_at_call 19; refine (M3.out _).mono ?_; rintro e w3 ⟨rfl, rfl⟩)
        | (go_at_call 14; refine (LV.out _).mono ?_; rintro e w4 ⟨rfl, hk4⟩))
      go_ret
      exact ⟨rfl, hk4⟩
    · skip
      have f3 : (p : Int) < (k : Int) := by omega
      have f4 : (p : Int) > 1 := by omega
      clear h2 h5
      go_enter Tryd.func8, Tryd.ntmps8
      go_wp2_with (first
        | (go_at_call 19; refine (M1.out _).mono ?_; clear M1; rintro e w1 ⟨rfl, rfl⟩)
        | (go_at_call 19; refine (M2.out _).mono ?_; clear M2; rintro e w2 ⟨rfl, rfl⟩)
        | (go_at_call 19; refine (M3.out _).mono ?_; rintro e w3 ⟨rfl, rfl⟩)
        | (go_at_call 14; refine (LV.out _).mono ?_; rintro e w4 ⟨rfl, hk4⟩))
      go_ret
      exact ⟨rfl, hk4⟩
end Go.Proofs.YtfbiinjpljmapaaDoor
