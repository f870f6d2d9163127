/-
  Naturals of package herd: elements in base 10^9 and their value. No memory here.
-/
import Derived.Test.YtfbiinjpljmapaaDoorRep
namespace Go.Proofs.YtfbiinjpljmapaaDoor

/-- the value of the first k digits in base 1000000, the least first -/
def valN (D : Nat → Int) : Nat → Int
  | 0 => 0
  | k + 1 => valN D k + D k * 1000000 ^ k
def DigN (D : Nat → Int) (n : Nat) : Prop := ∀ i, i < n → 0 ≤ D i ∧ D i < 1000000
theorem pw_posN (k : Nat) : (0 : Int) < 1000000 ^ k := Int.pow_pos (by omega)
theorem pw_succN (k : Nat) : (1000000 : Int) ^ (k + 1) = 1000000 ^ k * 1000000 := Int.pow_succ 1000000 k
theorem pw_leN {i j : Nat} (h : i ≤ j) : (1000000 : Int) ^ i ≤ 1000000 ^ j := by
  obtain ⟨d, rfl⟩ : ∃ d, j = i + d := ⟨j - i, by omega⟩
  induction d with
  | zero => exact Int.le_refl _
  | succ d ih =>
    have h1 := ih (by omega)
    have h2 := pw_succN (i + d)
    have h3 := pw_posN (i + d)
    rw [show i + (d + 1) = i + d + 1 by omega, h2]
    omega
theorem valN_congr {D E : Nat → Int} {n : Nat} (h : ∀ i, i < n → D i = E i) : valN D n = valN E n := by
  induction n with
  | zero => rfl
  | succ n ih => simp only [valN]; rw [ih (fun i hi => h i (by omega)), h n (by omega)]
theorem valN_bd {D : Nat → Int} {n : Nat} (h : DigN D n) : 0 ≤ valN D n ∧ valN D n < 1000000 ^ n := by
  induction n with
  | zero => simp [valN]
  | succ n ih =>
    have h1 := ih (fun i hi => h i (by omega))
    have h2 := h n (by omega)
    have h3 := pw_succN n
    have h4 := pw_posN n
    simp only [valN]
    rw [h3]
    have h5 : 0 ≤ D n * 1000000 ^ n := Int.mul_nonneg h2.1 (by omega)
    have h6 : D n * 1000000 ^ n ≤ 999999 * 1000000 ^ n := Int.mul_le_mul_of_nonneg_right (by omega) (by omega)
    omega
theorem valN_zeros {D : Nat → Int} {n : Nat} (d : Nat) (h : ∀ i, n ≤ i → i < n + d → D i = 0) : valN D (n + d) = valN D n := by
  induction d with
  | zero => rfl
  | succ d ih =>
    rw [← ih (fun i h1 h2 => h i h1 (by omega))]
    show valN D (n + d) + D (n + d) * 1000000 ^ (n + d) = _
    rw [h (n + d) (by omega) (by omega)]
    omega
/-- the top digit gives at least its power -/
theorem valN_top {D : Nat → Int} {n : Nat} (h : DigN D (n + 1)) (ht : D n ≠ 0) : 1000000 ^ n ≤ valN D (n + 1) := by
  have h1 := valN_bd (D := D) (n := n) (fun i hi => h i (by omega))
  have h2 := h n (by omega)
  simp only [valN]
  have h5 : 1 * 1000000 ^ n ≤ D n * 1000000 ^ n := Int.mul_le_mul_of_nonneg_right (by omega) (Int.le_of_lt (pw_posN n))
  omega
/-- two numbers, the digits above k being the same -/
theorem valN_cmp {D E : Nat → Int} {k : Nat} (d : Nat) (hD : DigN D (k + 1)) (hE : DigN E (k + 1)) (h : ∀ i, k < i → i < k + 1 + d → D i = E i) (hlt : D k < E k) : valN D (k + 1 + d) < valN E (k + 1 + d) := by
  induction d with
  | zero =>
    have h1 := valN_bd (D := D) (n := k) (fun i hi => hD i (by omega))
    have h2 := valN_bd (D := E) (n := k) (fun i hi => hE i (by omega))
    show valN D k + D k * 1000000 ^ k < valN E k + E k * 1000000 ^ k
    have h5 : (D k + 1) * 1000000 ^ k ≤ E k * 1000000 ^ k := Int.mul_le_mul_of_nonneg_right (by omega) (Int.le_of_lt (pw_posN k))
    rw [Int.add_mul, Int.one_mul] at h5
    omega
  | succ d ih =>
    have h1 := ih (fun i a b => h i a (by omega))
    show valN D (k + 1 + d) + D (k + 1 + d) * 1000000 ^ (k + 1 + d) < valN E (k + 1 + d) + E (k + 1 + d) * 1000000 ^ (k + 1 + d)
    rw [h (k + 1 + d) (by omega) (by omega)]
    omega
/-- digits without zeros at the end -/
def LeanN (D : Nat → Int) (n : Nat) : Prop := DigN D n ∧ (0 < n → D (n - 1) ≠ 0)
theorem lean_lenN {D E : Nat → Int} {n m : Nat} (hD : DigN D n) (hE : LeanN E m) (h : n < m) : valN D n < valN E m := by
  obtain ⟨m, rfl⟩ : ∃ k, m = k + 1 := ⟨m - 1, by omega⟩
  have h1 := valN_bd hD
  have h2 := valN_top hE.1 (hE.2 (by omega))
  have h3 := pw_leN (show n ≤ m by omega)
  omega
theorem lean_leN {D : Nat → Int} {n k : Nat} (hD : LeanN D n) (h : valN D n < 1000000 ^ k) : n ≤ k := by
  rcases Nat.lt_or_ge k n with h1 | h1
  · obtain ⟨n, rfl⟩ : ∃ k, n = k + 1 := ⟨n - 1, by omega⟩
    have h2 := valN_top hD.1 (hD.2 (by omega))
    have h3 := pw_leN (show k ≤ n by omega)
    omega
  · exact h1
theorem lean_zeroN {D : Nat → Int} {n : Nat} (hD : LeanN D n) : valN D n = 0 ↔ n = 0 := by
  constructor
  · intro h
    have := lean_leN (k := 0) hD (by rw [h]; simp)
    omega
  · rintro rfl; rfl
/-- digits, and zeros above them -/
def extN (D : Nat → Int) (n : Nat) : Nat → Int := fun i => if i < n then D i else 0
theorem extN_le {D : Nat → Int} {n k : Nat} (h : n ≤ k) : valN (extN D n) k = valN D n := by
  obtain ⟨d, rfl⟩ : ∃ d, k = n + d := ⟨k - n, by omega⟩
  rw [valN_zeros d (fun i h1 _ => by unfold extN; rw [if_neg (by omega)])]
  exact valN_congr (fun i hi => by unfold extN; rw [if_pos hi])
theorem valN_upd {D : Nat → Int} {j : Nat} {v : Int} {n : Nat} (h : j < n) : valN (fun i => if i = j then v else D i) n = valN D n + (v - D j) * 1000000 ^ j := by
  induction n with
  | zero => omega
  | succ n ih =>
    simp only [valN]
    by_cases e : j = n
    · subst e
      rw [if_pos rfl, valN_congr (E := D) (fun i hi => if_neg (by omega)), Int.sub_mul]
      omega
    · rw [if_neg (fun h => e h.symm), ih (by omega)]
      omega
/-- one digit of a sum -/
theorem plus_stepN {P V s c X Y a b : Int} (h : V + c * P = X + Y) (hs : s = c + a + b) : (V + (s % 1000000) * P) + (s / 1000000) * (P * 1000000) = (X + a * P) + (Y + b * P) := by
  have h1 := Int.emod_add_mul_ediv s 1000000
  generalize s % 1000000 = r at *
  generalize s / 1000000 = q at *
  subst hs
  have : c = r + 1000000 * q - a - b := by omega
  subst this
  grind
/-- one digit of a difference -/
theorem less_stepN {P V c X Y a b s c' : Int} (h : V - c * P = X - Y) (hs : s = a - c - b + c' * 1000000) : (V + s * P) - c' * (P * 1000000) = (X + a * P) - (Y + b * P) := by
  subst hs
  grind
/-- one digit of a product with a digit -/
theorem mul_stepN {Pi Pk T T0 c a b vb o s : Int} (h : T + c * (Pi * Pk) = T0 + a * vb * Pi) (hs : s = o + c + a * b) : (T + (s % 1000000 - o) * (Pi * Pk)) + (s / 1000000) * (Pi * Pk * 1000000) = T0 + a * (vb + b * Pk) * Pi := by
  have h1 := Int.emod_add_mul_ediv s 1000000
  generalize s % 1000000 = r at *
  generalize s / 1000000 = q at *
  subst hs
  have : o = r + 1000000 * q - c - a * b := by omega
  subst this
  grind
theorem mul_digitN {o c a b : Int} (ho : 0 ≤ o ∧ o < 1000000) (hc : 0 ≤ c ∧ c < 1000000) (ha : 0 ≤ a ∧ a < 1000000) (hb : 0 ≤ b ∧ b < 1000000) : 0 ≤ o + c + a * b ∧ o + c + a * b < 1000000000000 := by
  have h1 : 0 ≤ a * b := Int.mul_nonneg ha.1 hb.1
  have h2 : a * b ≤ 999999 * 999999 := Int.mul_le_mul (by omega) (by omega) hb.1 (by omega)
  omega
end Go.Proofs.YtfbiinjpljmapaaDoor
