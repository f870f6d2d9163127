/-
  Likenesses of rows, in plain numbers: what turning around, changing all or every second sign does; those around are sums of two; all of them together are the square of the sum.
-/
import Derived.Test.YthigeafojekclaaDoorQa
namespace Go.Proofs.YthigeafojekclaaDoor
open Go.RowKit Go.Deep

theorem likeN_congr {n : Nat} {p q : Nat → Bool} (h : ∀ i, i < n → p i = q i) {k : Nat} (hk : k ≤ n) : likeN n p k = likeN n q k := by
  unfold likeN lkN
  exact sumZ_congr fun i hi => by dsimp only; rw [h i (by omega), h (k + i) (by omega)]
theorem arouN_congr {n : Nat} {p q : Nat → Bool} (h : ∀ i, i < n → p i = q i) (k : Nat) : arouN n p k = arouN n q k := by
  unfold arouN lkN
  exact sumZ_congr fun i hi => by dsimp only; rw [h i hi, h ((k + i) % n) (Nat.mod_lt _ (by omega))]
theorem likeN_zero (n : Nat) (p : Nat → Bool) : likeN n p 0 = n := by
  unfold likeN lkN
  rw [sumZ_congr (g := fun _ => 1) (fun i _ => by dsimp only; rw [Nat.zero_add, sg_sq]), sumZ_const]
  simp
theorem arouN_zero (n : Nat) (p : Nat → Bool) : arouN n p 0 = n := by
  unfold arouN lkN
  rw [sumZ_congr (g := fun _ => 1) (fun i hi => by dsimp only; rw [Nat.zero_add, Nat.mod_eq_of_lt hi, sg_sq]), sumZ_const]
  simp
theorem likeN_not (n : Nat) (p : Nat → Bool) (k : Nat) : likeN n (fun i => !p i) k = likeN n p k := by
  unfold likeN lkN
  exact sumZ_congr fun i _ => by dsimp only; rw [sg_not, sg_not, Int.neg_mul_neg]
theorem likeN_back (n : Nat) (p : Nat → Bool) {k : Nat} (hk : k ≤ n) : likeN n (fun i => p (n - 1 - i)) k = likeN n p k := by
  unfold likeN lkN
  rw [← sumZ_rev (fun i => sg (p i) * sg (p (k + i)))]
  exact sumZ_congr fun i hi => by
    dsimp only
    rw [show n - 1 - (k + i) = n - k - 1 - i by omega, show k + (n - k - 1 - i) = n - 1 - i by omega, Int.mul_comm]
theorem sg_flip (b : Bool) (i : Nat) : sg (b ^^ decide (i % 2 = 1)) = (if i % 2 = 1 then -1 else 1) * sg b := by
  by_cases h : i % 2 = 1 <;> cases b <;> simp [h, sg]
def alt (i : Nat) : Int := if i % 2 = 1 then -1 else 1
theorem alt_sq (i : Nat) : alt i * alt i = 1 := by unfold alt; split <;> rfl
theorem alt_add (k i : Nat) : alt (k + i) = alt k * alt i := by
  unfold alt
  rcases (by omega : k % 2 = 0 ∨ k % 2 = 1) with h1 | h1 <;> rcases (by omega : i % 2 = 0 ∨ i % 2 = 1) with h2 | h2
  · rw [h1, h2, show (k + i) % 2 = 0 by omega]; rfl
  · rw [h1, h2, show (k + i) % 2 = 1 by omega]; rfl
  · rw [h1, h2, show (k + i) % 2 = 1 by omega]; rfl
  · rw [h1, h2, show (k + i) % 2 = 0 by omega]; rfl
theorem alt_mul (k i : Nat) (x y : Int) : (alt i * x) * (alt (k + i) * y) = alt k * (x * y) := by
  have h := alt_sq i
  rw [alt_add]
  generalize alt k = a at *
  generalize alt i = b at *
  grind
theorem likeN_second (n : Nat) (p : Nat → Bool) (k : Nat) : likeN n (fun i => p i ^^ decide (i % 2 = 1)) k = alt k * likeN n p k := by
  unfold likeN lkN
  rw [← sumZ_mul]
  exact sumZ_congr fun i _ => by
    rw [sg_flip, sg_flip]
    exact alt_mul k i _ _
theorem around_two (n : Nat) (p : Nat → Bool) {k : Nat} (h0 : 0 < k) (hk : k < n) : arouN n p k = likeN n p k + likeN n p (n - k) := by
  unfold arouN likeN lkN
  have h1 := sumZ_split (fun i => sg (p i) * sg (p ((k + i) % n))) (n - k) k
  rw [show n - k + k = n by omega] at h1
  rw [h1]
  congr 1
  · exact sumZ_congr fun i hi => by dsimp only; rw [Nat.mod_eq_of_lt (by omega)]
  · rw [show n - (n - k) = k by omega]
    exact sumZ_congr fun i hi => by
      dsimp only
      rw [show (k + (n - k + i)) % n = i by
        rw [show k + (n - k + i) = i + n by omega, Nat.add_mod_right, Nat.mod_eq_of_lt (by omega)], Int.mul_comm]
theorem sum_turned (f : Nat → Int) (n : Nat) {i : Nat} (hi : i ≤ n) : sumZ (fun k => f ((k + i) % n)) n = sumZ f n := by
  by_cases hn : n = 0
  · subst hn; rfl
  · have h1 := sumZ_split (fun k => f ((k + i) % n)) (n - i) i
    have h2 := sumZ_split f i (n - i)
    rw [show n - i + i = n by omega] at h1
    rw [show i + (n - i) = n by omega] at h2
    rw [h1, h2, Int.add_comm]
    congr 1
    · exact sumZ_congr fun k hk => by
        rw [show n - i + k + i = k + n by omega, Nat.add_mod_right, Nat.mod_eq_of_lt (by omega)]
    · exact sumZ_congr fun k hk => by
        rw [Nat.mod_eq_of_lt (by omega), Nat.add_comm]
/-- all those around together -/
theorem around_all (n : Nat) (p : Nat → Bool) : sumZ (fun k => arouN n p k) n = sumZ (fun i => sg (p i)) n * sumZ (fun i => sg (p i)) n := by
  unfold arouN lkN
  rw [sumZ_swap]
  rw [← sumZ_mul]
  exact sumZ_congr fun i hi => by
    rw [sumZ_mul, sum_turned (fun j => sg (p j)) n (Nat.le_of_lt hi), Int.mul_comm]
/-- the sum of the squares of all likenesses but the first one -/
def sqN (n : Nat) (p : Nat → Bool) : Int := sumZ (fun k => likeN n p (k + 1) * likeN n p (k + 1)) (n - 1)
theorem sqN_congr {n : Nat} {p q : Nat → Bool} (h : ∀ k, k < n → likeN n q k = likeN n p k ∨ likeN n q k = - likeN n p k) : sqN n q = sqN n p := by
  unfold sqN
  exact sumZ_congr fun k hk => by
    rcases h (k + 1) (by omega) with e | e <;> rw [e]
    rw [Int.neg_mul_neg]
theorem likeN_bound (n : Nat) (p : Nat → Bool) (k : Nat) : -(n : Int) ≤ likeN n p k ∧ likeN n p k ≤ n := by
  have := lkN_bound p (fun i => p (k + i)) (n - k)
  unfold likeN
  omega
theorem arouN_bound (n : Nat) (p : Nat → Bool) (k : Nat) : -(n : Int) ≤ arouN n p k ∧ arouN n p k ≤ n := lkN_bound _ _ _
theorem sq_bound {x : Int} {n : Int} (h1 : -n ≤ x) (h2 : x ≤ n) : 0 ≤ x * x ∧ x * x ≤ n * n := by
  constructor
  · rcases Int.le_total 0 x with h | h
    · exact Int.mul_nonneg h h
    · exact Int.mul_nonneg_of_nonpos_of_nonpos h h
  · rcases Int.le_total 0 x with h | h
    · exact Int.mul_le_mul h2 h2 h (by omega)
    · have := Int.mul_le_mul (show -x ≤ n by omega) (show -x ≤ n by omega) (by omega) (show 0 ≤ n by omega)
      rw [Int.neg_mul_neg] at this
      exact this
end Go.Proofs.YthigeafojekclaaDoor
