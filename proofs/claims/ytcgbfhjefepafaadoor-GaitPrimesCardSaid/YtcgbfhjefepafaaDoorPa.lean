/-
  The reference of gait: Prime, Legendre.
-/
import Derived.Test.YtcgbfhjefepafaaDoorRc
import Derived.Test.YtcgbfhjefepafaaDoorGq
namespace Go.Proofs.YtcgbfhjefepafaaDoor
open Go.RowKit Go.Deep Go.Shelf

theorem sq_zero (n k : Nat) : sqB n (k + 1) 0 = true := by
  induction k with
  | zero => simp [sqB]
  | succ k ih => rw [sqB, ih]; rfl
theorem leg_zero {n : Nat} (h : 1 ≤ n) : legP n 0 = false := by
  unfold legP
  obtain ⟨k, rfl⟩ : ∃ k, n = k + 1 := ⟨n - 1, by omega⟩
  rw [sq_zero]; rfl
theorem prime_root (p d : Nat) (hp : p < 62) (hd : d < 10) (h : p < d * d) (h2 : noDiv p d = true) : primeB p = true := by
  have h0 : allN (fun p => allN (fun d => !decide (p < d * d) || !noDiv p d || primeB p) 10) 62 = true := by decide +kernel
  have := allN_true.1 (allN_true.1 h0 p hp) d hd
  simpa [h, h2] using this
set_option maxRecDepth 100000 in
set_option maxHeartbeats 4000000 in
theorem rPrime_any (w : World) (p : Nat) (hp2 : 3 ≤ p) (hp : p ≤ 61) :
    Calls Tryd.prog 37 #[.int .i64 p] w fun e w' => e = .returned (.bool (primeB p)) ∧ w = w' := by
  go_enter Tryd.func37, Tryd.ntmps37
  go_wp2_with fail
  go_loopg [3] 10 (fun g s3 wr => ∃ d : Nat, 2 ≤ d ∧ d ≤ 8 ∧ g + d = 12 ∧ s3 = .int .i64 d ∧ w = wr ∧ Hid (noDiv p d = true))
  case atStart => exact ⟨2, by omega, by omega, by omega, rfl, rfl, by show _ = _; simp [noDiv]⟩
  case round =>
    obtain ⟨d, hd2, hd, hg, rfl, rfl, hA⟩ := hrel
    have hdd : d * d ≤ 8 * 8 := Nat.mul_le_mul hd hd
    have hcast : (d : Int) * (d : Int) = ((d * d : Nat) : Int) := by simp
    have hw : wrap64 ((d : Int) * (d : Int)) = (d : Int) * (d : Int) := by rw [hcast]; exact IntWalk.wrap64_in _ (by omega)
    have s3 : ¬ (d : Int) = 0 := by omega
    by_cases hlt : d * d ≤ p
    · have s2 : (d : Int) * (d : Int) ≤ (p : Int) := by rw [hcast]; omega
      have hd7 : d ≤ 7 := by
        have : ¬ d = 8 := fun e => by subst e; omega
        omega
      obtain ⟨r, HR⟩ : ∃ r : Nat, Hid (r = p % d) := ⟨_, rfl⟩
      have e1 : Int.tmod (p : Int) (d : Int) = (r : Int) := by rw [HR.out]; exact (Int.ofNat_tmod p d).symm
      by_cases h0 : r = 0
      · have hdp : d < p := by
          have : d * 2 ≤ d * d := Nat.mul_le_mul_left d hd2
          omega
        have hno : Hid (primeB p = false) := by show _ = _; exact noDiv_false hd2 hdp (by rw [← HR.out]; exact h0)
        have e2 : ((r : Int) == 0) = true := by simp [h0]
        clear HR hA h0 hdd hcast hlt
        go_wp2_with fail
        go_ret
        exact ⟨ret_bool hno.out.symm, rfl⟩
      · have hA2 : Hid (noDiv p (d + 1) = true) := by
          show _ = _
          simp only [noDiv]
          rw [hA.out, ← HR.out]
          simp [h0]
        have e2 : ((r : Int) == 0) = false := by simp; omega
        clear HR hA h0 hdd hcast hlt
        go_wp2_with fail
        go_roundg (12 - (d + 1))
        case measure => omega
        case rel => exact ⟨d + 1, by omega, by omega, by omega, by first | rfl | go_num, rfl, hA2.out⟩
    · have s2 : ¬ (d : Int) * (d : Int) ≤ (p : Int) := by rw [hcast]; omega
      have hyes : Hid (primeB p = true) := by show _ = _; exact prime_root p d (by omega) (by omega) (by omega) hA.out
      have s4 : (p : Int) > 1 := by omega
      clear hA hdd hcast hlt
      go_wp2_with fail
      go_ret
      exact ⟨ret_bool (by rw [hyes.out]), rfl⟩
set_option maxRecDepth 100000 in
set_option maxHeartbeats 4000000 in
theorem rLegendre_any (w : World) (n : Nat) (hn1 : 1 ≤ n) (hn : n ≤ 1000) :
    Calls Tryd.prog 38 #[.int .i64 n] w fun e w' => e = .returned (.string (rowS n (legP n))) ∧ w = w' := by
  have h0 : Hid (rowS 1 (legP n) = ⟨#[43]⟩) := by
    show _ = _
    rw [show rowS 1 (legP n) = rowS 1 (fun _ => false) from rowS_congr fun i hi => by rw [show i = 0 by omega, leg_zero hn1]]
    rfl
  go_enter Tryd.func38, Tryd.ntmps38
  go_wp2_with fail
  go_loopg [3, 4] n (fun g s3 s4 wr => ∃ i : Nat, 1 ≤ i ∧ i ≤ n ∧ g + i = n + 1 ∧ s3 = .string (rowS i (legP n)) ∧ s4 = .int .i64 i ∧ w = wr)
  case atStart => exact ⟨1, by omega, hn1, by omega, by rw [h0.out], rfl, rfl⟩
  case round =>
    obtain ⟨i, hi1, hi, hg, rfl, rfl, rfl⟩ := hrel
    have hsz : (rowS i (legP n)).size = i := rowS_size _ _
    by_cases hlt : i < n
    · have s2 : (i : Int) < (n : Int) := by omega
      have hsn : Hid (rowS (i + 1) (legP n) = rowS i (legP n) ++ rowS 1 (fun _ => !sqB n n i)) := row_snoc i (legP n)
      obtain ⟨R', HR'⟩ : ∃ R', R' = rowS (i + 1) (legP n) := ⟨_, rfl⟩
      rw [← HR'] at hsn
      generalize rowS i (legP n) = R at *
      clear h0
      go_wp2_with fail
      go_loopg [5, 6] n (fun g s5 s6 wi => ∃ j : Nat, j ≤ n ∧ g = n - j ∧ s5 = .string (rowS 1 (fun _ => !sqB n j i)) ∧ s6 = .int .i64 j ∧ w = wi)
      case atStart => exact ⟨0, Nat.zero_le _, rfl, rfl, rfl, rfl⟩
      case round =>
        obtain ⟨j, hj, rfl, rfl, rfl, rfl⟩ := hrel
        by_cases hlt2 : j < n
        · have s3 : (j : Int) < (n : Int) := by omega
          have s0 : ¬ (n : Int) = 0 := by omega
          have hjj : j * j < n * n := Nat.mul_lt_mul'' hlt2 hlt2
          have hnn : n * n ≤ 1000 * 1000 := Nat.mul_le_mul hn hn
          obtain ⟨q, HQ⟩ : ∃ q : Nat, Hid (q = j * j % n) := ⟨_, rfl⟩
          have hcast : (j : Int) * (j : Int) = ((j * j : Nat) : Int) := by simp
          have hw : wrap64 ((j : Int) * (j : Int)) = (j : Int) * (j : Int) := by rw [hcast]; exact IntWalk.wrap64_in _ (by omega)
          have e1 : Int.tmod ((j : Int) * (j : Int)) (n : Int) = (q : Int) := by rw [HQ.out, hcast]; exact (Int.ofNat_tmod (j * j) n).symm
          by_cases hq : q = i
          · have e2 : ((q : Int) == (i : Int)) = true := by simp [hq]
            have hres : Hid (rowS 1 (fun _ => !sqB n (j + 1) i) = ⟨#[43]⟩) := by
              show _ = _
              have : sqB n (j + 1) i = true := by
                simp only [sqB]
                rw [← HQ.out, hq]; simp
              rw [this]; rfl
            clear hjj hnn HQ hcast hq
            go_wp2_with fail
            go_roundg (n - (j + 1))
            case measure => omega
            case rel => exact ⟨j + 1, by omega, rfl, by rw [hres.out], by first | rfl | go_num, rfl⟩
          · have e2 : ((q : Int) == (i : Int)) = false := by simp; omega
            have hres : Hid (rowS 1 (fun _ => !sqB n (j + 1) i) = rowS 1 (fun _ => !sqB n j i)) := by
              show _ = _
              have : sqB n (j + 1) i = sqB n j i := by
                simp only [sqB]
                rw [← HQ.out]; simp [hq]
              rw [this]
            generalize rowS 1 (fun _ => !sqB n j i) = T at *
            clear hjj hnn HQ hcast hq
            go_wp2_with fail
            go_roundg (n - (j + 1))
            case measure => omega
            case rel => exact ⟨j + 1, by omega, rfl, by rw [hres.out], by first | rfl | go_num, rfl⟩
        · obtain rfl : j = n := by omega
          have hT : (rowS 1 (fun _ => !sqB j j i)).size = 1 := rowS_size _ _
          have s3 : ¬ (j : Int) < (j : Int) := by omega
          have s4 : ¬ 9223372036854775807 < i + 1 := by omega
          generalize rowS 1 (fun _ => !sqB j j i) = T at *
          go_wp2_with fail
          go_roundg (j + 1 - (i + 1))
          case measure => omega
          case rel => exact ⟨i + 1, by omega, by omega, by omega, by rw [← HR', hsn.out], by first | rfl | go_num, rfl⟩
    · obtain rfl : i = n := by omega
      have s2 : ¬ (i : Int) < (i : Int) := by omega
      go_wp2_with fail
      go_ret
      exact ⟨rfl, rfl⟩
end Go.Proofs.YtcgbfhjefepafaaDoor
