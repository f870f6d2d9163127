/-
  Numbers of any size: digits in base 10000 and their value. No memory here.
-/
import Derived.Test.YtomnjcjipdnnfaaRep
namespace Go.Proofs.Ytomnjcjipdnnfaa

/-- the value of the first k digits in base 10000, the least first -/
def valZ (D : Nat → Int) : Nat → Int
  | 0 => 0
  | k + 1 => valZ D k + D k * 10000 ^ k
def DigZ (D : Nat → Int) (n : Nat) : Prop := ∀ i, i < n → 0 ≤ D i ∧ D i < 10000
theorem pw_pos (k : Nat) : (0 : Int) < 10000 ^ k := Int.pow_pos (by omega)
theorem pw_succ (k : Nat) : (10000 : Int) ^ (k + 1) = 10000 ^ k * 10000 := Int.pow_succ 10000 k
theorem pw_le {i j : Nat} (h : i ≤ j) : (10000 : Int) ^ i ≤ 10000 ^ j := by
  obtain ⟨d, rfl⟩ : ∃ d, j = i + d := ⟨j - i, by omega⟩
  induction d with
  | zero => exact Int.le_refl _
  | succ d ih =>
    have h1 := ih (by omega)
    have h2 := pw_succ (i + d)
    have h3 := pw_pos (i + d)
    rw [show i + (d + 1) = i + d + 1 by omega, h2]
    omega
theorem valZ_congr {D E : Nat → Int} {n : Nat} (h : ∀ i, i < n → D i = E i) : valZ D n = valZ E n := by
  induction n with
  | zero => rfl
  | succ n ih => simp only [valZ]; rw [ih (fun i hi => h i (by omega)), h n (by omega)]
theorem valZ_bd {D : Nat → Int} {n : Nat} (h : DigZ D n) : 0 ≤ valZ D n ∧ valZ D n < 10000 ^ n := by
  induction n with
  | zero => simp [valZ]
  | succ n ih =>
    have h1 := ih (fun i hi => h i (by omega))
    have h2 := h n (by omega)
    have h3 := pw_succ n
    have h4 := pw_pos n
    simp only [valZ]
    rw [h3]
    have h5 : 0 ≤ D n * 10000 ^ n := Int.mul_nonneg h2.1 (by omega)
    have h6 : D n * 10000 ^ n ≤ 9999 * 10000 ^ n := Int.mul_le_mul_of_nonneg_right (by omega) (by omega)
    omega
theorem valZ_zeros {D : Nat → Int} {n : Nat} (d : Nat) (h : ∀ i, n ≤ i → i < n + d → D i = 0) : valZ D (n + d) = valZ D n := by
  induction d with
  | zero => rfl
  | succ d ih =>
    rw [← ih (fun i h1 h2 => h i h1 (by omega))]
    show valZ D (n + d) + D (n + d) * 10000 ^ (n + d) = _
    rw [h (n + d) (by omega) (by omega)]
    omega
/-- the top digit gives at least its power -/
theorem valZ_top {D : Nat → Int} {n : Nat} (h : DigZ D (n + 1)) (ht : D n ≠ 0) : 10000 ^ n ≤ valZ D (n + 1) := by
  have h1 := valZ_bd (D := D) (n := n) (fun i hi => h i (by omega))
  have h2 := h n (by omega)
  simp only [valZ]
  have h5 : 1 * 10000 ^ n ≤ D n * 10000 ^ n := Int.mul_le_mul_of_nonneg_right (by omega) (Int.le_of_lt (pw_pos n))
  omega
/-- two numbers, the digits above k being the same -/
theorem valZ_cmp {D E : Nat → Int} {k : Nat} (d : Nat) (hD : DigZ D (k + 1)) (hE : DigZ E (k + 1)) (h : ∀ i, k < i → i < k + 1 + d → D i = E i) (hlt : D k < E k) : valZ D (k + 1 + d) < valZ E (k + 1 + d) := by
  induction d with
  | zero =>
    have h1 := valZ_bd (D := D) (n := k) (fun i hi => hD i (by omega))
    have h2 := valZ_bd (D := E) (n := k) (fun i hi => hE i (by omega))
    show valZ D k + D k * 10000 ^ k < valZ E k + E k * 10000 ^ k
    have h5 : (D k + 1) * 10000 ^ k ≤ E k * 10000 ^ k := Int.mul_le_mul_of_nonneg_right (by omega) (Int.le_of_lt (pw_pos k))
    rw [Int.add_mul, Int.one_mul] at h5
    omega
  | succ d ih =>
    have h1 := ih (fun i a b => h i a (by omega))
    show valZ D (k + 1 + d) + D (k + 1 + d) * 10000 ^ (k + 1 + d) < valZ E (k + 1 + d) + E (k + 1 + d) * 10000 ^ (k + 1 + d)
    rw [h (k + 1 + d) (by omega) (by omega)]
    omega
/-- digits without zeros at the end -/
def LeanZ (D : Nat → Int) (n : Nat) : Prop := DigZ D n ∧ (0 < n → D (n - 1) ≠ 0)
theorem lean_len {D E : Nat → Int} {n m : Nat} (hD : DigZ D n) (hE : LeanZ E m) (h : n < m) : valZ D n < valZ E m := by
  obtain ⟨m, rfl⟩ : ∃ k, m = k + 1 := ⟨m - 1, by omega⟩
  have h1 := valZ_bd hD
  have h2 := valZ_top hE.1 (hE.2 (by omega))
  have h3 := pw_le (show n ≤ m by omega)
  omega
theorem lean_le {D : Nat → Int} {n k : Nat} (hD : LeanZ D n) (h : valZ D n < 10000 ^ k) : n ≤ k := by
  rcases Nat.lt_or_ge k n with h1 | h1
  · obtain ⟨n, rfl⟩ : ∃ k, n = k + 1 := ⟨n - 1, by omega⟩
    have h2 := valZ_top hD.1 (hD.2 (by omega))
    have h3 := pw_le (show k ≤ n by omega)
    omega
  · exact h1
theorem lean_zero {D : Nat → Int} {n : Nat} (hD : LeanZ D n) : valZ D n = 0 ↔ n = 0 := by
  constructor
  · intro h
    have := lean_le (k := 0) hD (by rw [h]; simp)
    omega
  · rintro rfl; rfl
/-- digits, and zeros above them -/
def extZ (D : Nat → Int) (n : Nat) : Nat → Int := fun i => if i < n then D i else 0
theorem extZ_le {D : Nat → Int} {n k : Nat} (h : n ≤ k) : valZ (extZ D n) k = valZ D n := by
  obtain ⟨d, rfl⟩ : ∃ d, k = n + d := ⟨k - n, by omega⟩
  rw [valZ_zeros d (fun i h1 _ => by unfold extZ; rw [if_neg (by omega)])]
  exact valZ_congr (fun i hi => by unfold extZ; rw [if_pos hi])
theorem valZ_upd {D : Nat → Int} {j : Nat} {v : Int} {n : Nat} (h : j < n) : valZ (fun i => if i = j then v else D i) n = valZ D n + (v - D j) * 10000 ^ j := by
  induction n with
  | zero => omega
  | succ n ih =>
    simp only [valZ]
    by_cases e : j = n
    · subst e
      rw [if_pos rfl, valZ_congr (E := D) (fun i hi => if_neg (by omega)), Int.sub_mul]
      omega
    · rw [if_neg (fun h => e h.symm), ih (by omega)]
      omega
/-- one digit of a sum -/
theorem plus_step {P V s c X Y a b : Int} (h : V + c * P = X + Y) (hs : s = c + a + b) : (V + (s % 10000) * P) + (s / 10000) * (P * 10000) = (X + a * P) + (Y + b * P) := by
  have h1 := Int.emod_add_mul_ediv s 10000
  generalize s % 10000 = r at *
  generalize s / 10000 = q at *
  subst hs
  have : c = r + 10000 * q - a - b := by omega
  subst this
  grind
/-- one digit of a difference -/
theorem less_step {P V c X Y a b s c' : Int} (h : V - c * P = X - Y) (hs : s = a - c - b + c' * 10000) : (V + s * P) - c' * (P * 10000) = (X + a * P) - (Y + b * P) := by
  subst hs
  grind
/-- one digit of a product with a digit -/
theorem mul_step {Pi Pk T T0 c a b vb o s : Int} (h : T + c * (Pi * Pk) = T0 + a * vb * Pi) (hs : s = o + c + a * b) : (T + (s % 10000 - o) * (Pi * Pk)) + (s / 10000) * (Pi * Pk * 10000) = T0 + a * (vb + b * Pk) * Pi := by
  have h1 := Int.emod_add_mul_ediv s 10000
  generalize s % 10000 = r at *
  generalize s / 10000 = q at *
  subst hs
  have : o = r + 10000 * q - c - a * b := by omega
  subst this
  grind
theorem mul_digit {o c a b : Int} (ho : 0 ≤ o ∧ o < 10000) (hc : 0 ≤ c ∧ c < 10000) (ha : 0 ≤ a ∧ a < 10000) (hb : 0 ≤ b ∧ b < 10000) : 0 ≤ o + c + a * b ∧ o + c + a * b < 100000000 := by
  have h1 : 0 ≤ a * b := Int.mul_nonneg ha.1 hb.1
  have h2 : a * b ≤ 9999 * 9999 := Int.mul_le_mul (by omega) (by omega) hb.1 (by omega)
  omega
def sgnZ (m : Bool) (x : Int) : Int := if m then -x else x
def cmpI (x y : Int) : Int := if x < y then -1 else if y < x then 1 else 0
def signI (x : Int) : Int := if x < 0 then -1 else if 0 < x then 1 else 0
end Go.Proofs.Ytomnjcjipdnnfaa
