/-
  Package herd: partSize, Most.
  How many pairs Turan's herd has: Most (plain numbers).
-/
import Derived.Test.YtlnlddnjalfamaaGreatDoorHc
namespace Go.Proofs.YtlnlddnjalfamaaGreatDoor
open Go.RowKit Go.Deep

/-- how many of n horses are in part p of r -/
def partN (n r p : Nat) : Nat := if p < n % r then n / r + 1 else n / r
theorem partN_le {n r : Nat} (p : Nat) (hr : 0 < r) : partN n r p ≤ n := by
  unfold partN
  have h1 := Nat.div_add_mod n r
  have h2 : n / r ≤ n := Nat.div_le_self _ _
  split
  · have h3 : 1 * (n / r) ≤ r * (n / r) := Nat.mul_le_mul_right _ hr
    omega
  · omega
/-- the squares of the sizes of the first k parts -/
def sqN (n r : Nat) : Nat → Nat
  | 0 => 0
  | k + 1 => sqN n r k + partN n r k * partN n r k
theorem sqN_le {n r : Nat} (hr : 0 < r) (hn : n ≤ 1000) (k : Nat) (hk : k ≤ r) : sqN n r k ≤ k * 1000000 := by
  induction k with
  | zero => exact Nat.le_refl _
  | succ k ih =>
    have h1 := ih (by omega)
    have h2 := partN_le (n := n) k hr
    have h3 : partN n r k * partN n r k ≤ 1000 * 1000 := Nat.mul_le_mul (by omega) (by omega)
    simp only [sqN]
    omega
/-- how many pairs Turan's herd has -/
def mostN (n r : Nat) : Int := ((n : Int) * n - (sqN n r r : Nat)).tdiv 2
def withinB (x : Int) (m : Int) : Bool := decide (1 ≤ x ∧ x ≤ m)
end Go.Proofs.YtlnlddnjalfamaaGreatDoor
namespace Go.Proofs.YtlnlddnjalfamaaGreatDoor

theorem sqN_to (n r k : Nat) : sqN n r k = min k (n % r) * ((n / r + 1) * (n / r + 1)) + (k - min k (n % r)) * (n / r * (n / r)) := by
  induction k with
  | zero => simp [sqN]
  | succ k ih =>
    simp only [sqN, ih, partN]
    generalize n % r = m
    generalize n / r = q
    by_cases h : k < m
    · rw [if_pos h, Nat.min_eq_left (by omega : k ≤ m), Nat.min_eq_left (by omega : k + 1 ≤ m), Nat.sub_self, Nat.sub_self]
      generalize (q + 1) * (q + 1) = X
      generalize q * q = Y
      rw [Nat.succ_mul]
      omega
    · rw [if_neg h, Nat.min_eq_right (by omega : m ≤ k), Nat.min_eq_right (by omega : m ≤ k + 1), show k + 1 - m = (k - m) + 1 by omega]
      generalize (q + 1) * (q + 1) = X
      generalize q * q = Y
      rw [Nat.succ_mul (k - m) Y]
      omega
/-- the squares of the sizes of all parts -/
theorem sqN_all {n r : Nat} (hr : 0 < r) : sqN n r r = n * (n / r) + n % r * (n / r + 1) := by
  rw [sqN_to]
  have h1 := Nat.div_add_mod n r
  have h2 := Nat.mod_lt n hr
  generalize n % r = m at *
  generalize n / r = q at *
  rw [Nat.min_eq_right (by omega)]
  obtain ⟨t, rfl⟩ : ∃ t, r = m + t := ⟨r - m, by omega⟩
  rw [Nat.add_sub_cancel_left]
  subst h1
  grind
theorem sqN_mono {n r : Nat} (hr : 0 < r) : sqN n (r + 1) (r + 1) ≤ sqN n r r := by
  rw [sqN_all hr, sqN_all (by omega)]
  have h1 := Nat.div_add_mod n r
  have h2 := Nat.mod_lt n hr
  have h3 := Nat.div_add_mod n (r + 1)
  have h4 := Nat.mod_lt n (show 0 < r + 1 by omega)
  have h5 : n / (r + 1) ≤ n / r := Nat.div_le_div_left (by omega) hr
  generalize n % r = m at *
  generalize n / r = q at *
  generalize n % (r + 1) = m' at *
  generalize n / (r + 1) = q' at *
  by_cases e : q' = q
  · subst e
    rw [Nat.succ_mul] at h3
    have hm : m' ≤ m := by omega
    have := Nat.mul_le_mul_right (q' + 1) hm
    omega
  · have h6 : m' * q' ≤ r * q' := Nat.mul_le_mul_right _ (by omega)
    have h7 : m' * (q' + 1) ≤ n := by
      rw [Nat.mul_succ]
      rw [Nat.succ_mul] at h3
      omega
    have h8 : n * (q' + 1) ≤ n * q := Nat.mul_le_mul_left _ (by omega)
    rw [Nat.mul_succ] at h8
    omega
theorem sqN_one (n : Nat) : sqN n 1 1 = n * n := by
  rw [sqN_all (by omega)]
  simp [Nat.mod_one]
theorem sqN_sq {n r : Nat} (hr : 0 < r) : sqN n r r ≤ n * n := by
  obtain ⟨d, rfl⟩ : ∃ d, r = d + 1 := ⟨r - 1, by omega⟩
  clear hr
  induction d with
  | zero => rw [sqN_one]; exact Nat.le_refl _
  | succ d ih => exact Nat.le_trans (sqN_mono (by omega)) ih
theorem sqN_many {n r : Nat} (hr : 0 < r) (h : n ≤ r) : sqN n r r = n := by
  rw [sqN_all hr]
  by_cases e : n = r
  · subst e
    rw [Nat.div_self hr, Nat.mod_self]
    omega
  · rw [Nat.div_eq_of_lt (by omega), Nat.mod_eq_of_lt (by omega)]
    omega
theorem mostN_nat {n r : Nat} (hr : 0 < r) : mostN n r = (((n * n - sqN n r r) / 2 : Nat) : Int) := by
  unfold mostN
  have h := sqN_sq (n := n) hr
  have e : (n : Int) * n - ((sqN n r r : Nat) : Int) = ((n * n - sqN n r r : Nat) : Int) := by
    rw [Int.ofNat_sub h]
    simp
  rw [e]
  rfl
theorem most_two (n : Nat) : mostN n 2 = ((n * n / 4 : Nat) : Int) := by
  rw [mostN_nat (by omega), sqN_all (by omega)]
  have h1 := Nat.div_add_mod n 2
  have h2 := Nat.mod_lt n (show 0 < 2 by omega)
  generalize n % 2 = m at *
  generalize n / 2 = q at *
  congr 1
  have h3 : m = 0 ∨ m = 1 := by omega
  rcases h3 with rfl | rfl
  · subst h1
    have e1 : (2 * q + 0) * (2 * q + 0) = 4 * (q * q) := by grind
    have e2 : (2 * q + 0) * q = 2 * (q * q) := by grind
    rw [e1, e2]
    omega
  · subst h1
    have e1 : (2 * q + 1) * (2 * q + 1) = 4 * (q * q) + 4 * q + 1 := by grind
    have e2 : (2 * q + 1) * q = 2 * (q * q) + q := by grind
    rw [e1, e2]
    omega
theorem most_mono {n r : Nat} (hr : 0 < r) : mostN n r ≤ mostN n (r + 1) := by
  rw [mostN_nat hr, mostN_nat (by omega)]
  have := sqN_mono (n := n) hr
  have h2 := sqN_sq (n := n) hr
  omega
theorem most_many {n r : Nat} (hr : 0 < r) (h : n ≤ r) : mostN n r = ((n * (n - 1) / 2 : Nat) : Int) := by
  rw [mostN_nat hr, sqN_many hr h, Nat.mul_sub_one]
theorem most_one (n : Nat) : mostN n 1 = 0 := by
  rw [mostN_nat (by omega), sqN_one, Nat.sub_self]
  rfl
end Go.Proofs.YtlnlddnjalfamaaGreatDoor
