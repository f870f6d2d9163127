/-
  Golay pairs, in plain numbers: there are some of lengths 8 and 10, none of lengths 7 and 9.
-/
import Derived.Test.YtofgadehblpoiaaDoorGn
namespace Go.Proofs.YtofgadehblpoiaaDoor
open Go.RowKit Go.Deep Go.Shelf

def cntB (f : Nat → Bool) : Nat → Nat
  | 0 => 0
  | k + 1 => cntB f k + if f k then 1 else 0
def xorB (f : Nat → Bool) : Nat → Bool
  | 0 => false
  | k + 1 => xorB f k ^^ f k
theorem sum_cnt (f : Nat → Bool) (m : Nat) : sumZ (fun i => sg (f i)) m = (m : Int) - 2 * (cntB f m : Int) := by
  induction m with
  | zero => rfl
  | succ m ih =>
    simp only [sumZ, cntB]
    rw [ih]
    cases f m <;> simp [sg] <;> omega
theorem xor_cnt (f : Nat → Bool) (m : Nat) : xorB f m = (cntB f m % 2 == 1) := by
  induction m with
  | zero => rfl
  | succ m ih =>
    simp only [xorB, cntB]
    rw [ih]
    have h : cntB f m % 2 = 0 ∨ cntB f m % 2 = 1 := by omega
    cases f m
    · simp
    · rcases h with h | h
      · have h2 : (cntB f m + 1) % 2 = 1 := by omega
        simp [h, h2]
      · have h2 : (cntB f m + 1) % 2 = 0 := by omega
        simp [h, h2]
theorem xor_xor (f g : Nat → Bool) (m : Nat) : (xorB f m ^^ xorB g m) = xorB (fun i => f i ^^ g i) m := by
  induction m with
  | zero => rfl
  | succ m ih =>
    simp only [xorB]
    rw [← ih]
    cases xorB f m <;> cases xorB g m <;> cases f m <;> cases g m <;> rfl
theorem xor_congr {f g : Nat → Bool} (h : ∀ i, f i = g i) (m : Nat) : xorB f m = xorB g m := by
  rw [show f = g from funext h]
/-- the products of what both rows have at the two ends -/
theorem gol_par {n : Nat} {p q : Nat → Bool} (h : golN n p q = true) {k : Nat} (h1 : 1 ≤ k) (hk : k < n) :
    xorB (fun i => (p i ^^ q i) ^^ (p (k + i) ^^ q (k + i))) (n - k) = ((n - k) % 2 == 1) := by
  have h2 := allN_true.1 h k hk
  simp only [decide_eq_false (show ¬ k = 0 by omega), Bool.false_or, decide_eq_true_eq] at h2
  have e1 : likeN n p k = sumZ (fun i => sg (p i ^^ p (k + i))) (n - k) := sumZ_congr fun i _ => sg_mul _ _
  have e2 : likeN n q k = sumZ (fun i => sg (q i ^^ q (k + i))) (n - k) := sumZ_congr fun i _ => sg_mul _ _
  rw [e1, e2, sum_cnt, sum_cnt] at h2
  have h3 : cntB (fun i => p i ^^ p (k + i)) (n - k) + cntB (fun i => q i ^^ q (k + i)) (n - k) = n - k := by omega
  rw [xor_congr (g := fun i => (p i ^^ p (k + i)) ^^ (q i ^^ q (k + i))) (fun i => by cases p i <;> cases q i <;> cases p (k + i) <;> cases q (k + i) <;> rfl), ← xor_xor, xor_cnt, xor_cnt]
  generalize cntB (fun i => p i ^^ p (k + i)) (n - k) = a at *
  generalize cntB (fun i => q i ^^ q (k + i)) (n - k) = b at *
  rw [← h3]
  have ha : a % 2 = 0 ∨ a % 2 = 1 := by omega
  have hb : b % 2 = 0 ∨ b % 2 = 1 := by omega
  rcases ha with ha | ha <;> rcases hb with hb | hb
  · rw [ha, hb, show (a + b) % 2 = 0 by omega]; rfl
  · rw [ha, hb, show (a + b) % 2 = 1 by omega]; rfl
  · rw [ha, hb, show (a + b) % 2 = 1 by omega]; rfl
  · rw [ha, hb, show (a + b) % 2 = 0 by omega]; rfl
theorem no7 (p q : Nat → Bool) : golN 7 p q = false := by
  cases h : golN 7 p q
  · rfl
  · have h6 := gol_par h (k := 6) (by omega) (by omega)
    have h5 := gol_par h (k := 5) (by omega) (by omega)
    have h4 := gol_par h (k := 4) (by omega) (by omega)
    have h3 := gol_par h (k := 3) (by omega) (by omega)
    simp only [Nat.reduceSub, xorB, Nat.reduceAdd, Nat.add_zero] at h6 h5 h4 h3
    generalize (p 0 ^^ q 0) = e0 at *
    generalize (p 1 ^^ q 1) = e1 at *
    generalize (p 2 ^^ q 2) = e2 at *
    generalize (p 3 ^^ q 3) = e3 at *
    generalize (p 4 ^^ q 4) = e4 at *
    generalize (p 5 ^^ q 5) = e5 at *
    generalize (p 6 ^^ q 6) = e6 at *
    clear h
    revert h3 h4 h5 h6
    revert e0 e1 e2 e3 e4 e5 e6
    decide +kernel
theorem no9 (p q : Nat → Bool) : golN 9 p q = false := by
  cases h : golN 9 p q
  · rfl
  · have h8 := gol_par h (k := 8) (by omega) (by omega)
    have h7 := gol_par h (k := 7) (by omega) (by omega)
    have h6 := gol_par h (k := 6) (by omega) (by omega)
    have h5 := gol_par h (k := 5) (by omega) (by omega)
    have h4 := gol_par h (k := 4) (by omega) (by omega)
    simp only [Nat.reduceSub, xorB, Nat.reduceAdd, Nat.add_zero] at h8 h7 h6 h5 h4
    generalize (p 0 ^^ q 0) = e0 at *
    generalize (p 1 ^^ q 1) = e1 at *
    generalize (p 2 ^^ q 2) = e2 at *
    generalize (p 3 ^^ q 3) = e3 at *
    generalize (p 4 ^^ q 4) = e4 at *
    generalize (p 5 ^^ q 5) = e5 at *
    generalize (p 6 ^^ q 6) = e6 at *
    generalize (p 7 ^^ q 7) = e7 at *
    generalize (p 8 ^^ q 8) = e8 at *
    clear h
    revert h4 h5 h6 h7 h8
    revert e0 e1 e2 e3 e4 e5 e6 e7 e8
    decide +kernel
theorem gy_full {n x : Nat} (h : ∀ y, gB n x y = false) : gy n x = 2 ^ n := least_none.2 (fun y _ => h y)
theorem gx_none {n : Nat} (h : ∀ p q, golN n p q = false) : ¬ gx n < 2 ^ n := by
  have : gx n = 2 ^ n := least_none.2 (fun x _ => by
    rw [gy_full (fun y => h _ _)]
    simp)
  omega
theorem gx_some {n x y : Nat} (hx : x < 2 ^ n) (hy : y < 2 ^ n) (h : gB n x y = true) : gx n < 2 ^ n := by
  have h1 : gy n x < 2 ^ n := by
    rcases Nat.lt_or_ge (gy n x) (2 ^ n) with h1 | h1
    · exact h1
    · have h2 : gy n x = 2 ^ n := Nat.le_antisymm (least_le _ _) h1
      have := least_none.1 h2 y hy
      rw [h] at this
      cases this
  rcases Nat.lt_or_ge (gx n) (2 ^ n) with h2 | h2
  · exact h2
  · have h3 : gx n = 2 ^ n := Nat.le_antisymm (least_le _ _) h2
    have := least_none.1 h3 x hx
    rw [decide_eq_true h1] at this
    cases this
theorem gx_is {n : Nat} (h : gx n < 2 ^ n) : gy n (gx n) < 2 ^ n ∧ gB n (gx n) (gy n (gx n)) = true := by
  have h1 : gy n (gx n) < 2 ^ n := of_decide_eq_true (least_some h).1
  exact ⟨h1, (least_some h1).1⟩
theorem gol7 : ¬ gx 7 < 2 ^ 7 := gx_none no7
theorem gol9 : ¬ gx 9 < 2 ^ 9 := gx_none no9
theorem gol8 : gx 8 < 2 ^ 8 := gx_some (x := 6) (y := 53) (by decide) (by decide) (by decide +kernel)
theorem gol10 : gx 10 < 2 ^ 10 := gx_some (x := 22) (y := 197) (by decide) (by decide) (by decide +kernel)
end Go.Proofs.YtofgadehblpoiaaDoor
