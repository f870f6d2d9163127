/-
  Goodman's count of triples (plain numbers).
-/
import Derived.Test.YtfbiinjpljmapaaDoorRep
namespace Go.Proofs.YtfbiinjpljmapaaDoor

theorem sumN_congr {f g : Nat → Nat} {n : Nat} (h : ∀ i, i < n → f i = g i) : sumN f n = sumN g n := by
  induction n with
  | zero => rfl
  | succ n ih => simp only [sumN]; rw [ih (fun i hi => h i (by omega)), h n (by omega)]
theorem sumN_add (f g : Nat → Nat) (n : Nat) : sumN (fun i => f i + g i) n = sumN f n + sumN g n := by
  induction n with
  | zero => rfl
  | succ n ih => simp only [sumN]; omega
theorem sumN_mul (c : Nat) (f : Nat → Nat) (n : Nat) : sumN (fun i => c * f i) n = c * sumN f n := by
  induction n with
  | zero => rfl
  | succ n ih => simp only [sumN, ih, Nat.mul_add]
theorem sumN_zero (n : Nat) : sumN (fun _ => 0) n = 0 := by
  induction n with
  | zero => rfl
  | succ n ih => simp only [sumN, ih]
theorem sumN_swap (f : Nat → Nat → Nat) (n m : Nat) : sumN (fun i => sumN (fun j => f i j) m) n = sumN (fun j => sumN (fun i => f i j) n) m := by
  induction n with
  | zero => simp only [sumN, sumN_zero]
  | succ n ih => simp only [sumN, ih, sumN_add]
theorem sumN_cnt (p : Nat → Bool) (n : Nat) : sumN (fun i => if p i then 1 else 0) n = cnt p n := by
  induction n with
  | zero => rfl
  | succ n ih => simp only [sumN, cnt, ih]
def S3 (φ : Nat → Nat → Nat → Nat) (n : Nat) : Nat := sumN (fun i => sumN (fun j => sumN (fun k => φ i j k) n) n) n
theorem S3_congr {φ ψ : Nat → Nat → Nat → Nat} {n : Nat} (h : ∀ i j k, i < n → j < n → k < n → φ i j k = ψ i j k) : S3 φ n = S3 ψ n :=
  sumN_congr fun i hi => sumN_congr fun j hj => sumN_congr fun k hk => h i j k hi hj hk
theorem S3_add (φ ψ : Nat → Nat → Nat → Nat) (n : Nat) : S3 (fun i j k => φ i j k + ψ i j k) n = S3 φ n + S3 ψ n := by
  simp only [S3, sumN_add]
theorem S3_mul (c : Nat) (φ : Nat → Nat → Nat → Nat) (n : Nat) : S3 (fun i j k => c * φ i j k) n = c * S3 φ n := by
  simp only [S3, sumN_mul]
theorem S3_12 (φ : Nat → Nat → Nat → Nat) (n : Nat) : S3 (fun i j k => φ j i k) n = S3 φ n := by
  unfold S3
  rw [sumN_swap]
theorem S3_23 (φ : Nat → Nat → Nat → Nat) (n : Nat) : S3 (fun i j k => φ i k j) n = S3 φ n := by
  unfold S3
  exact sumN_congr fun i _ => sumN_swap _ _ _
def one (b : Bool) : Nat := if b then 1 else 0
def monoB (F : Nat → Nat → Bool) (i j k : Nat) : Bool := (F i j == F i k) && (F i j == F j k)
def risB (i j k : Nat) : Bool := decide (i < j) && decide (j < k)
def disB (i j k : Nat) : Bool := !decide (i = j) && !decide (i = k) && !decide (j = k)
theorem ris_six (i j k : Nat) : one (disB i j k) = one (risB i j k) + one (risB i k j) + one (risB j i k) + one (risB j k i) + one (risB k i j) + one (risB k j i) := by
  unfold one disB risB
  by_cases h1 : i < j <;> by_cases h2 : j < k <;> by_cases h3 : i < k <;> by_cases h4 : j < i <;> by_cases h5 : k < j <;> by_cases h6 : k < i <;> simp [h1, h2, h3, h4, h5, h6] <;> omega
theorem one_and (a b : Bool) : one (a && b) = one a * one b := by cases a <;> cases b <;> rfl
structure Sym (F : Nat → Nat → Bool) (n : Nat) : Prop where
  sym : ∀ i j, i < n → j < n → F i j = F j i
  irr : ∀ i, i < n → F i i = false
theorem mono_12 {F : Nat → Nat → Bool} {n i j k : Nat} (h : Sym F n) (hi : i < n) (hj : j < n) : monoB F i j k = monoB F j i k := by
  unfold monoB
  rw [h.sym j i hj hi]
  cases F i j <;> cases F i k <;> cases F j k <;> rfl
theorem mono_23 {F : Nat → Nat → Bool} {n i j k : Nat} (h : Sym F n) (hj : j < n) (hk : k < n) : monoB F i j k = monoB F i k j := by
  unfold monoB
  rw [h.sym k j hk hj]
  cases F i j <;> cases F i k <;> cases F j k <;> rfl
def tP (F : Nat → Nat → Bool) (i j k : Nat) : Nat := one (risB i j k && monoB F i j k)
def uP (F : Nat → Nat → Bool) (i j k : Nat) : Nat := one (disB i j k && monoB F i j k)
def xP (F : Nat → Nat → Bool) (i j k : Nat) : Nat := one (disB i j k && !(F i j == F i k))
theorem six (F : Nat → Nat → Bool) (n : Nat) (h : Sym F n) : S3 (uP F) n = 6 * S3 (tP F) n := by
  have e : S3 (uP F) n = S3 (fun i j k => tP F i j k + tP F i k j + tP F j i k + tP F j k i + tP F k i j + tP F k j i) n := S3_congr fun i j k hi hj hk => by
    unfold uP tP
    simp only [one_and]
    rw [← mono_23 (F := F) (i := i) (j := j) (k := k) h hj hk, ← mono_12 (F := F) (i := i) (j := j) (k := k) h hi hj,
      show monoB F j k i = monoB F i j k by rw [mono_23 h hk hi, ← mono_12 h hi hj],
      show monoB F k i j = monoB F i j k by rw [mono_12 h hk hi, ← mono_23 h hj hk],
      show monoB F k j i = monoB F i j k by rw [mono_12 h hk hj, mono_23 h hk hi, ← mono_12 h hi hj]]
    rw [ris_six]
    simp only [Nat.add_mul]
  rw [e]
  simp only [S3_add]
  have a1 : S3 (fun i j k => tP F i k j) n = S3 (tP F) n := S3_23 (tP F) n
  have a2 : S3 (fun i j k => tP F j i k) n = S3 (tP F) n := S3_12 (tP F) n
  have a3 : S3 (fun i j k => tP F j k i) n = S3 (tP F) n := (S3_12 (fun i j k => tP F i k j) n).trans a1
  have a4 : S3 (fun i j k => tP F k i j) n = S3 (tP F) n := (S3_23 (fun i j k => tP F j i k) n).trans a2
  have a5 : S3 (fun i j k => tP F k j i) n = S3 (tP F) n := (S3_12 (fun i j k => tP F k i j) n).trans a4
  have a0 : S3 (fun i j k => tP F i j k) n = S3 (tP F) n := rfl
  have a6 : S3 (fun i j => tP F j i) n = S3 (tP F) n := a2
  omega
theorem two_three (F : Nat → Nat → Bool) (n : Nat) (h : Sym F n) : 2 * S3 (uP F) n + 3 * S3 (xP F) n = 2 * S3 (fun i j k => one (disB i j k)) n := by
  have e : S3 (fun i j k => 2 * one (disB i j k)) n = S3 (fun i j k => 2 * uP F i j k + xP F i j k + xP F j i k + xP F k i j) n := S3_congr fun i j k hi hj hk => by
    unfold uP xP monoB
    rw [h.sym j i hj hi, h.sym k i hk hi, h.sym k j hk hj, show disB j i k = disB i j k by unfold disB; by_cases h1 : i = j <;> by_cases h2 : i = k <;> by_cases h3 : j = k <;> simp [h1, h2, h3] <;> omega,
      show disB k i j = disB i j k by unfold disB; by_cases h1 : i = j <;> by_cases h2 : i = k <;> by_cases h3 : j = k <;> simp [h1, h2, h3] <;> omega]
    cases disB i j k <;> cases F i j <;> cases F i k <;> cases F j k <;> rfl
  rw [S3_mul] at e
  rw [e]
  simp only [S3_add, S3_mul]
  have a2 : S3 (fun i j k => xP F j i k) n = S3 (xP F) n := S3_12 (xP F) n
  have a4 : S3 (fun i j k => xP F k i j) n = S3 (xP F) n := (S3_23 (fun i j k => xP F j i k) n).trans a2
  have a0 : S3 (fun i j k => xP F i j k) n = S3 (xP F) n := rfl
  have a6 : S3 (fun i j => xP F j i) n = S3 (xP F) n := a2
  omega
/-- how many others i gets along with -/
def degF (F : Nat → Nat → Bool) (n i : Nat) : Nat := cnt (F i) n
theorem cnt_ne (n i : Nat) (hi : i < n) (p : Nat → Bool) (h : p i = false) : cnt (fun k => !decide (i = k) && !p k) n + cnt p n + 1 = n := by
  have h2 : ∀ m, m ≤ n → cnt (fun k => !decide (i = k) && !p k) m + cnt p m + (if i < m then 1 else 0) = m := fun m hm => by
    induction m with
    | zero => simp [cnt]
    | succ m ih =>
      have := ih (by omega)
      simp only [cnt]
      by_cases e : i = m
      · subst e
        simp [h] at this ⊢
        omega
      · have e2 : (if i < m + 1 then 1 else 0) = (if i < m then 1 else 0) := by
          by_cases h3 : i < m
          · rw [if_pos h3, if_pos (by omega)]
          · rw [if_neg h3, if_neg (by omega)]
        rw [e2]
        by_cases hp : p m = true
        · simp [e, hp]; omega
        · simp [e, hp]; omega
  have := h2 n (Nat.le_refl _)
  rw [if_pos hi] at this
  exact this
theorem sum_prod (f g : Nat → Nat) (n m : Nat) : sumN (fun j => sumN (fun k => f j * g k) m) n = sumN f n * sumN g m := by
  induction n with
  | zero => simp [sumN]
  | succ n ih => simp only [sumN]; rw [ih, sumN_mul, Nat.add_mul]
theorem sum_one (p : Nat → Bool) (n : Nat) : sumN (fun i => one (p i)) n = cnt p n := sumN_cnt p n
/-- for one i: ordered pairs of others of which i gets along with exactly one -/
theorem xP_row (F : Nat → Nat → Bool) (n i : Nat) (h : Sym F n) (hi : i < n) : sumN (fun j => sumN (fun k => xP F i j k) n) n = 2 * (degF F n i * (n - 1 - degF F n i)) := by
  have e : sumN (fun j => sumN (fun k => xP F i j k) n) n = sumN (fun j => sumN (fun k => one (F i j) * one (!decide (i = k) && !F i k)) n) n + sumN (fun j => sumN (fun k => one (!decide (i = j) && !F i j) * one (F i k)) n) n := by
    rw [← sumN_add]
    refine sumN_congr fun j _ => ?_
    rw [← sumN_add]
    refine sumN_congr fun k _ => ?_
    unfold xP disB
    have hI := h.irr i hi
    by_cases h1 : i = j
    · subst h1
      by_cases h2 : i = k
      · subst h2; simp [hI, one]
      · simp [hI, one, h2]
    · by_cases h2 : i = k
      · subst h2
        simp [hI, one, h1]
      · by_cases h3 : j = k
        · subst h3
          cases F i j <;> simp [one, h1]
        · cases F i j <;> cases F i k <;> simp [one, h1, h2, h3]
  rw [e, sum_prod, sum_prod, sum_one, sum_one]
  have h2 := cnt_ne n i hi (F i) (h.irr i hi)
  have h3 : cnt (fun k => !decide (i = k) && !F i k) n = n - 1 - degF F n i := by unfold degF; omega
  rw [h3]
  unfold degF
  rw [Nat.mul_comm (n - 1 - cnt (F i) n)]
  omega
theorem dis_all : (List.range 10).all (fun n => S3 (fun i j k => one (disB i j k)) n == n * (n - 1) * (n - 2)) = true := by decide +kernel
/-- Goodman's count -/
theorem goodman (F : Nat → Nat → Bool) (n : Nat) (h : Sym F n) (hn : n ≤ 9) : 2 * S3 (tP F) n + sumN (fun i => degF F n i * (n - 1 - degF F n i)) n = n * (n - 1) * (n - 2) / 3 ∧ n * (n - 1) * (n - 2) ≤ 504 := by
  have h1 := six F n h
  have h2 := two_three F n h
  have h3 := dis_all
  rw [List.all_eq_true] at h3
  have h4 := h3 n (by simp; omega)
  simp only [beq_iff_eq] at h4
  rw [h4] at h2
  have h5 : S3 (xP F) n = 2 * sumN (fun i => degF F n i * (n - 1 - degF F n i)) n := by
    unfold S3
    rw [← sumN_mul]
    exact sumN_congr fun i hi => xP_row F n i h hi
  have h6 : (List.range 10).all (fun n => decide (n * (n - 1) * (n - 2) ≤ 504)) = true := by decide +kernel
  rw [List.all_eq_true] at h6
  have h7 := h6 n (by simp; omega)
  simp only [decide_eq_true_eq] at h7
  generalize n * (n - 1) * (n - 2) = N at *
  omega
/-- of six there are three of one kind -/
theorem six_three (F : Nat → Nat → Bool) (n : Nat) (h : Sym F n) (hn : n ≤ 9) (h6 : 6 ≤ n) : 0 < S3 (tP F) n := by
  have h1 := (goodman F n h hn).1
  have hb : ∀ i, i < n → degF F n i * (n - 1 - degF F n i) ≤ (n - 1) * (n - 1) / 4 := fun i hi => by
    have hd : degF F n i ≤ n - 1 := by
      have := cnt_ne n i hi (F i) (h.irr i hi)
      unfold degF
      omega
    have hall : (List.range 9).all (fun m => (List.range 9).all fun d => decide (m < d) || decide (d * (m - d) ≤ m * m / 4)) = true := by decide +kernel
    rw [List.all_eq_true] at hall
    have h2 := hall (n - 1) (by simp; omega)
    rw [List.all_eq_true] at h2
    have h3 := h2 (degF F n i) (by simp; omega)
    simp at h3
    omega
  have h2 := sumN_le _ _ n hb
  have h3 : n = 6 ∨ n = 7 ∨ n = 8 ∨ n = 9 := by omega
  rcases h3 with rfl | rfl | rfl | rfl <;> omega
end Go.Proofs.YtfbiinjpljmapaaDoor
