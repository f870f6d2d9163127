/-
  Package herd: partSize, Most.
  How many pairs Turan's herd has: Most (plain numbers).
-/
import Derived.Test.YtfbiinjpljmapaaDoorHc
namespace Go.Proofs.YtfbiinjpljmapaaDoor
open Go.RowKit Go.Deep

/-- how many of n horses are in part p of r -/
def partN (n r p : Nat) : Nat := if p < n % r then n / r + 1 else n / r
theorem partN_le {n r : Nat} (p : Nat) (hr : 0 < r) : partN n r p ≤ n := by
  unfold partN
  have h1 := Nat.div_add_mod n r
  have h2 : n / r ≤ n := Nat.div_le_self _ _
  split
  · have h3 : 1 * (n / r) ≤ r * (n / r) := Nat.mul_le_mul_right _ hr
    omega
  · omega
set_option maxRecDepth 100000 in
set_option maxHeartbeats 4000000 in
theorem partSize_any (w : World) (n r p : Nat) (hn : n ≤ 1000) (hr : 0 < r) (hr2 : r ≤ 1000) :
    Calls Tryd.prog 45 #[.int .i64 n, .int .i64 r, .int .i64 p] w fun e w' => e = .returned (.int .i64 ((partN n r p : Nat) : Int)) ∧ w = w' := by
  have r0 : ¬ (r : Int) = 0 := by omega
  have hq : n / r ≤ n := Nat.div_le_self _ _
  have hm : n % r < r := Nat.mod_lt _ hr
  have hv : Hid (partN n r p = if p < n % r then n / r + 1 else n / r) := rfl
  obtain ⟨q, HQ⟩ : ∃ q, Hid (q = n / r) := ⟨_, rfl⟩
  obtain ⟨m, HM⟩ : ∃ m, Hid (m = n % r) := ⟨_, rfl⟩
  have e1 : Int.tdiv (n : Int) (r : Int) = (q : Int) := by rw [HQ.out]; exact (Int.ofNat_tdiv n r).symm
  have e2 : Int.tmod (n : Int) (r : Int) = (m : Int) := by rw [HM.out]; exact (Int.ofNat_tmod n r).symm
  rw [← HQ.out] at hq hv
  rw [← HM.out] at hm hv
  have w0 : IntKind.i64.wrap (q : Int) = q := IntWalk.i64_in _ (by omega)
  clear HQ HM
  by_cases hlt : p < m
  · have h1 : Hid (partN n r p = q + 1) := by show _ = _; rw [hv.out, if_pos hlt]
    have s1 : (p : Int) < (m : Int) := by omega
    go_enter Tryd.func45, Tryd.ntmps45
    go_wp2_with fail
    go_ret
    exact ⟨ret_int (by rw [h1.out]; omega), rfl⟩
  · have h1 : Hid (partN n r p = q) := by show _ = _; rw [hv.out, if_neg hlt]
    have s1 : ¬ (p : Int) < (m : Int) := by omega
    go_enter Tryd.func45, Tryd.ntmps45
    go_wp2_with fail
    go_ret
    exact ⟨ret_int (by rw [h1.out]), rfl⟩
/-- the squares of the sizes of the first k parts -/
def sqN (n r : Nat) : Nat → Nat
  | 0 => 0
  | k + 1 => sqN n r k + partN n r k * partN n r k
theorem sqN_le {n r : Nat} (hr : 0 < r) (hn : n ≤ 1000) (k : Nat) (hk : k ≤ r) : sqN n r k ≤ k * 1000000 := by
  induction k with
  | zero => exact Nat.le_refl _
  | succ k ih =>
    have h1 := ih (by omega)
    have h2 := partN_le (n := n) k hr
    have h3 : partN n r k * partN n r k ≤ 1000 * 1000 := Nat.mul_le_mul (by omega) (by omega)
    simp only [sqN]
    omega
/-- how many pairs Turan's herd has -/
def mostN (n r : Nat) : Int := ((n : Int) * n - (sqN n r r : Nat)).tdiv 2
def withinB (x : Int) (m : Int) : Bool := decide (1 ≤ x ∧ x ≤ m)
set_option maxRecDepth 100000 in
set_option maxHeartbeats 4000000 in
theorem Most_any (w : World) (n r : Int) :
    Calls Tryd.prog 19 #[.int .i64 n, .int .i64 r] w fun e w' => e = .returned (if withinB n 1000 && withinB r 1000 then .tuple #[.int .i64 (mostN n.toNat r.toNat), .int .i64 0] else .tuple #[.int .i64 0, .int .i64 1]) ∧ w = w' := by
  have WN := Lib.hid (fun W => isWithin_any W n 1000)
  have WR := Lib.hid (fun W => isWithin_any W r 1000)
  obtain ⟨bn, HBN⟩ : ∃ b, Hid (b = withinB n 1000) := ⟨_, rfl⟩
  obtain ⟨br, HBR⟩ : ∃ b, Hid (b = withinB r 1000) := ⟨_, rfl⟩
  have e1 : decide (1 ≤ n ∧ n ≤ 1000) = bn := HBN.out.symm
  have e2 : decide (1 ≤ r ∧ r ≤ 1000) = br := HBR.out.symm
  rw [e1] at WN
  rw [e2] at WR
  rw [← HBN.out, ← HBR.out]
  cases bn with
  | false =>
    clear e1 e2 HBN HBR
    go_enter Tryd.func19, Tryd.ntmps19
    go_wp2_with (first | (go_at_call 42; refine (WN.out _).mono ?_; rintro e w1 ⟨rfl, rfl⟩))
    go_ret2
    exact ⟨rfl, rfl⟩
  | true =>
    cases br with
    | false =>
      clear e1 e2 HBN HBR
      go_enter Tryd.func19, Tryd.ntmps19
      go_wp2_with (first | (go_at_call 42; refine (WN.out _).mono ?_; clear WN; rintro e w1 ⟨rfl, rfl⟩) | (go_at_call 42; refine (WR.out _).mono ?_; rintro e w1 ⟨rfl, rfl⟩))
      go_ret2
      exact ⟨rfl, rfl⟩
    | true =>
      simp only [decide_eq_true_eq] at e1 e2
      obtain ⟨n1, n2⟩ := e1
      obtain ⟨r1, r2⟩ := e2
      obtain ⟨N, rfl⟩ : ∃ N : Nat, n = N := ⟨n.toNat, by omega⟩
      obtain ⟨R, rfl⟩ : ∃ R : Nat, r = R := ⟨r.toNat, by omega⟩
      have hN : N ≤ 1000 := by omega
      have hR : R ≤ 1000 := by omega
      have hR0 : 0 < R := by omega
      have hnn : (N : Int) * N ≤ 1000000 := by
        have h := Nat.mul_le_mul hN hN
        have e : (N : Int) * N = ((N * N : Nat) : Int) := by simp
        omega
      have hnn0 : 0 ≤ (N : Int) * N := Int.mul_nonneg (by omega) (by omega)
      have hans : Hid (mostN N R = ((N : Int) * N - (sqN N R R : Nat)).tdiv 2) := rfl
      obtain ⟨A, HA⟩ : ∃ A, Hid (A = (N : Int) * N) := ⟨_, rfl⟩
      rw [← HA.out] at hnn hnn0 hans
      have wa : IntKind.i64.wrap ((N : Int) * N) = A := by rw [HA.out]; exact IntWalk.i64_in _ (by rw [← HA.out]; omega)
      have PS := Lib.hid (fun W (p : Nat) => partSize_any W N R p hN hR0 hR)
      clear n1 n2 r1 r2 HBN HBR HA
      go_enter Tryd.func19, Tryd.ntmps19
      go_wp2_with (first | (go_at_call 42; refine (WN.out _).mono ?_; clear WN; rintro e w1 ⟨rfl, rfl⟩) | (go_at_call 42; refine (WR.out _).mono ?_; rintro e w1 ⟨rfl, rfl⟩))
      go_loopg [6, 20] R (fun g s6 s20 wr => ∃ k : Nat, k ≤ R ∧ g = R - k ∧ s6 = .int .i64 (A - (sqN N R k : Nat)) ∧ s20 = .int .i64 k ∧ w = wr)
      case atStart => exact ⟨0, Nat.zero_le _, rfl, by simp [sqN], rfl, rfl⟩
      case round =>
        obtain ⟨k, hk, rfl, rfl, rfl, rfl⟩ := hrel
        have hsq := sqN_le (n := N) hR0 hN k hk
        by_cases hlt : k < R
        · have s1 : (k : Int) < (R : Int) := by omega
          have PK := Lib.hid (fun W => PS.out W k)
          have hp1 := partN_le (n := N) k hR0
          have hnext : Hid (sqN N R (k + 1) = sqN N R k + partN N R k * partN N R k) := rfl
          obtain ⟨p, HP⟩ : ∃ p, Hid (p = partN N R k) := ⟨_, rfl⟩
          obtain ⟨S, HS⟩ : ∃ S, Hid (S = sqN N R k) := ⟨_, rfl⟩
          rw [← HP.out] at PK hp1 hnext
          rw [← HS.out] at hsq hnext
          rw [← HS.out]
          have hpp : p * p ≤ 1000 * 1000 := Nat.mul_le_mul (by omega) (by omega)
          obtain ⟨Q, HQ⟩ : ∃ Q, Hid (Q = p * p) := ⟨_, rfl⟩
          have ep : (p : Int) * (p : Int) = (Q : Int) := by rw [HQ.out]; simp
          rw [← HQ.out] at hpp hnext
          have wq : IntKind.i64.wrap ((p : Int) * (p : Int)) = (Q : Int) := by rw [ep]; exact IntWalk.i64_in _ (by omega)
          have ws : IntKind.i64.wrap (A - (S : Int) - (Q : Int)) = A - (S : Int) - (Q : Int) := IntWalk.i64_in _ (by omega)
          clear HP HS HQ ep
          go_wp2_with (first | (go_at_call 45; refine (PK.out _).mono ?_; rintro e w1 ⟨rfl, rfl⟩))
          go_roundg (R - (k + 1))
          case measure => omega
          case rel => exact ⟨k + 1, by omega, rfl, by rw [hnext.out]; go_num, by go_num, rfl⟩
        · obtain rfl : k = R := by omega
          obtain ⟨S, HS⟩ : ∃ S, Hid (S = sqN N k k) := ⟨_, rfl⟩
          rw [← HS.out] at hsq hans
          rw [← HS.out]
          obtain ⟨E, HE⟩ : ∃ E, Hid (E = (A - (S : Int)).tdiv 2) := ⟨_, rfl⟩
          have hE : E.natAbs = (A - (S : Int)).natAbs / 2 := by rw [HE.out, Int.natAbs_tdiv]; rfl
          have e1 : Int.tdiv (A - (S : Int)) 2 = E := HE.out.symm
          have wE : IntKind.i64.wrap E = E := IntWalk.i64_in _ (by omega)
          rw [← HE.out] at hans
          clear HE HS hE
          go_wp2_with fail
          go_ret2
          exact ⟨by rw [hans.out]; rfl, rfl⟩
end Go.Proofs.YtfbiinjpljmapaaDoor
namespace Go.Proofs.YtfbiinjpljmapaaDoor

theorem sqN_to (n r k : Nat) : sqN n r k = min k (n % r) * ((n / r + 1) * (n / r + 1)) + (k - min k (n % r)) * (n / r * (n / r)) := by
  induction k with
  | zero => simp [sqN]
  | succ k ih =>
    simp only [sqN, ih, partN]
    generalize n % r = m
    generalize n / r = q
    by_cases h : k < m
    · rw [if_pos h, Nat.min_eq_left (by omega : k ≤ m), Nat.min_eq_left (by omega : k + 1 ≤ m), Nat.sub_self, Nat.sub_self]
      generalize (q + 1) * (q + 1) = X
      generalize q * q = Y
      rw [Nat.succ_mul]
      omega
    · rw [if_neg h, Nat.min_eq_right (by omega : m ≤ k), Nat.min_eq_right (by omega : m ≤ k + 1), show k + 1 - m = (k - m) + 1 by omega]
      generalize (q + 1) * (q + 1) = X
      generalize q * q = Y
      rw [Nat.succ_mul (k - m) Y]
      omega
/-- the squares of the sizes of all parts -/
theorem sqN_all {n r : Nat} (hr : 0 < r) : sqN n r r = n * (n / r) + n % r * (n / r + 1) := by
  rw [sqN_to]
  have h1 := Nat.div_add_mod n r
  have h2 := Nat.mod_lt n hr
  generalize n % r = m at *
  generalize n / r = q at *
  rw [Nat.min_eq_right (by omega)]
  obtain ⟨t, rfl⟩ : ∃ t, r = m + t := ⟨r - m, by omega⟩
  rw [Nat.add_sub_cancel_left]
  subst h1
  grind
theorem sqN_mono {n r : Nat} (hr : 0 < r) : sqN n (r + 1) (r + 1) ≤ sqN n r r := by
  rw [sqN_all hr, sqN_all (by omega)]
  have h1 := Nat.div_add_mod n r
  have h2 := Nat.mod_lt n hr
  have h3 := Nat.div_add_mod n (r + 1)
  have h4 := Nat.mod_lt n (show 0 < r + 1 by omega)
  have h5 : n / (r + 1) ≤ n / r := Nat.div_le_div_left (by omega) hr
  generalize n % r = m at *
  generalize n / r = q at *
  generalize n % (r + 1) = m' at *
  generalize n / (r + 1) = q' at *
  by_cases e : q' = q
  · subst e
    rw [Nat.succ_mul] at h3
    have hm : m' ≤ m := by omega
    have := Nat.mul_le_mul_right (q' + 1) hm
    omega
  · have h6 : m' * q' ≤ r * q' := Nat.mul_le_mul_right _ (by omega)
    have h7 : m' * (q' + 1) ≤ n := by
      rw [Nat.mul_succ]
      rw [Nat.succ_mul] at h3
      omega
    have h8 : n * (q' + 1) ≤ n * q := Nat.mul_le_mul_left _ (by omega)
    rw [Nat.mul_succ] at h8
    omega
theorem sqN_one (n : Nat) : sqN n 1 1 = n * n := by
  rw [sqN_all (by omega)]
  simp [Nat.mod_one]
theorem sqN_sq {n r : Nat} (hr : 0 < r) : sqN n r r ≤ n * n := by
  obtain ⟨d, rfl⟩ : ∃ d, r = d + 1 := ⟨r - 1, by omega⟩
  clear hr
  induction d with
  | zero => rw [sqN_one]; exact Nat.le_refl _
  | succ d ih => exact Nat.le_trans (sqN_mono (by omega)) ih
theorem sqN_many {n r : Nat} (hr : 0 < r) (h : n ≤ r) : sqN n r r = n := by
  rw [sqN_all hr]
  by_cases e : n = r
  · subst e
    rw [Nat.div_self hr, Nat.mod_self]
    omega
  · rw [Nat.div_eq_of_lt (by omega), Nat.mod_eq_of_lt (by omega)]
    omega
theorem mostN_nat {n r : Nat} (hr : 0 < r) : mostN n r = (((n * n - sqN n r r) / 2 : Nat) : Int) := by
  unfold mostN
  have h := sqN_sq (n := n) hr
  have e : (n : Int) * n - ((sqN n r r : Nat) : Int) = ((n * n - sqN n r r : Nat) : Int) := by
    rw [Int.ofNat_sub h]
    simp
  rw [e]
  rfl
theorem most_two (n : Nat) : mostN n 2 = ((n * n / 4 : Nat) : Int) := by
  rw [mostN_nat (by omega), sqN_all (by omega)]
  have h1 := Nat.div_add_mod n 2
  have h2 := Nat.mod_lt n (show 0 < 2 by omega)
  generalize n % 2 = m at *
  generalize n / 2 = q at *
  congr 1
  have h3 : m = 0 ∨ m = 1 := by omega
  rcases h3 with rfl | rfl
  · subst h1
    have e1 : (2 * q + 0) * (2 * q + 0) = 4 * (q * q) := by grind
    have e2 : (2 * q + 0) * q = 2 * (q * q) := by grind
    rw [e1, e2]
    omega
  · subst h1
    have e1 : (2 * q + 1) * (2 * q + 1) = 4 * (q * q) + 4 * q + 1 := by grind
    have e2 : (2 * q + 1) * q = 2 * (q * q) + q := by grind
    rw [e1, e2]
    omega
theorem most_mono {n r : Nat} (hr : 0 < r) : mostN n r ≤ mostN n (r + 1) := by
  rw [mostN_nat hr, mostN_nat (by omega)]
  have := sqN_mono (n := n) hr
  have h2 := sqN_sq (n := n) hr
  omega
theorem most_many {n r : Nat} (hr : 0 < r) (h : n ≤ r) : mostN n r = ((n * (n - 1) / 2 : Nat) : Int) := by
  rw [mostN_nat hr, sqN_many hr h, Nat.mul_sub_one]
theorem most_one (n : Nat) : mostN n 1 = 0 := by
  rw [mostN_nat (by omega), sqN_one, Nat.sub_self]
  rfl
end Go.Proofs.YtfbiinjpljmapaaDoor
