/-
  GaitBarker: which lengths have a row of Barker's, and that no row is better, in plain numbers.
-/
import Derived.Test.YtcgbfhjefepafaaDoorRe
namespace Go.Proofs.YtcgbfhjefepafaaDoor
open Go.RowKit Go.Deep Go.Shelf

/-- which lengths have a row of Barker's -/
def barHas (k : Nat) : Bool := decide (k ≤ 5) || decide (k = 7) || decide (k = 11) || decide (k = 13)
def noBar (n : Nat) : Bool := allN (fun x => !barB n x) (2 ^ n)
theorem bx_none {n : Nat} (h : noBar n = true) : ¬ bx n < 2 ^ n := by
  have : bx n = 2 ^ n := least_none.2 (fun i hi => by have := allN_true.1 h i hi; simpa using this)
  omega
theorem bx_some {n x : Nat} (hx : x < 2 ^ n) (h : barB n x = true) : bx n < 2 ^ n := by
  rcases Nat.lt_or_ge (bx n) (2 ^ n) with h1 | h1
  · exact h1
  · have h2 : bx n = 2 ^ n := Nat.le_antisymm (least_le _ _) h1
    have := least_none.1 h2 x hx
    rw [h] at this
    cases this
theorem noBar6 : noBar 6 = true := by decide +kernel
theorem noBar8 : noBar 8 = true := by decide +kernel
theorem noBar9 : noBar 9 = true := by decide +kernel
theorem noBar10 : noBar 10 = true := by decide +kernel
theorem noBar12h : allN (fun a => allN (fun b => !barB 12 (64 * a + b)) 64) 64 = true := by decide +kernel
theorem noBar12 : noBar 12 = true := by
  unfold noBar
  rw [allN_true]
  intro x hx
  have h := allN_true.1 (allN_true.1 noBar12h (x / 64) (by omega)) (x % 64) (by omega)
  rw [show 64 * (x / 64) + x % 64 = x by omega] at h
  exact h
theorem isBar1 : bx 1 < 2 ^ 1 := bx_some (x := 0) (by decide) (by decide +kernel)
theorem isBar2 : bx 2 < 2 ^ 2 := bx_some (x := 0) (by decide) (by decide +kernel)
theorem isBar3 : bx 3 < 2 ^ 3 := bx_some (x := 1) (by decide) (by decide +kernel)
theorem isBar4 : bx 4 < 2 ^ 4 := bx_some (x := 1) (by decide) (by decide +kernel)
theorem isBar5 : bx 5 < 2 ^ 5 := bx_some (x := 2) (by decide) (by decide +kernel)
theorem isBar7 : bx 7 < 2 ^ 7 := bx_some (x := 13) (by decide) (by decide +kernel)
theorem isBar11 : bx 11 < 2 ^ 11 := bx_some (x := 237) (by decide) (by decide +kernel)
theorem isBar13 : bx 13 < 2 ^ 13 := bx_some (x := 202) (by decide) (by decide +kernel)
theorem bar_has {k : Nat} (h1 : 1 ≤ k) (h2 : k ≤ 13) : barHas k = decide (bx k < 2 ^ k) := by
  have : k = 1 ∨ k = 2 ∨ k = 3 ∨ k = 4 ∨ k = 5 ∨ k = 6 ∨ k = 7 ∨ k = 8 ∨ k = 9 ∨ k = 10 ∨ k = 11 ∨ k = 12 ∨ k = 13 := by omega
  rcases this with rfl | rfl | rfl | rfl | rfl | rfl | rfl | rfl | rfl | rfl | rfl | rfl | rfl
  · rw [decide_eq_true isBar1]; rfl
  · rw [decide_eq_true isBar2]; rfl
  · rw [decide_eq_true isBar3]; rfl
  · rw [decide_eq_true isBar4]; rfl
  · rw [decide_eq_true isBar5]; rfl
  · rw [decide_eq_false (bx_none noBar6)]; rfl
  · rw [decide_eq_true isBar7]; rfl
  · rw [decide_eq_false (bx_none noBar8)]; rfl
  · rw [decide_eq_false (bx_none noBar9)]; rfl
  · rw [decide_eq_false (bx_none noBar10)]; rfl
  · rw [decide_eq_true isBar11]; rfl
  · rw [decide_eq_false (bx_none noBar12)]; rfl
  · rw [decide_eq_true isBar13]; rfl
/-- a sum of m signs is as odd as m -/
theorem lkN_odd (p q : Nat → Bool) (m : Nat) : (lkN p q m - m) % 2 = 0 := by
  induction m with
  | zero => rfl
  | succ m ih =>
    have e : lkN p q (m + 1) = lkN p q m + sg (p m) * sg (q m) := rfl
    rw [e, sg_mul]
    rcases sg_cases (p m ^^ q m) with h | h <;> rw [h] <;> omega
theorem sq_small {x y : Int} {m : Nat} (hx1 : -1 ≤ x) (hx2 : x ≤ 1) (hx : (x - m) % 2 = 0) (hy : (y - m) % 2 = 0) : x * x ≤ y * y := by
  by_cases h0 : x = 0
  · subst h0
    rw [Int.zero_mul]
    exact (sq_bound (n := y.natAbs) (by omega) (by omega)).1
  · have hxx : x * x = 1 := by
      have : x = 1 ∨ x = -1 := by omega
      rcases this with rfl | rfl <;> rfl
    have hy0 : y ≠ 0 := by omega
    rw [hxx]
    rcases Int.lt_or_gt_of_ne hy0 with h | h
    · have := Int.mul_le_mul (show 1 ≤ -y by omega) (show 1 ≤ -y by omega) (by omega) (show 0 ≤ -y by omega)
      rw [Int.neg_mul_neg] at this
      omega
    · have := Int.mul_le_mul (show 1 ≤ y by omega) (show 1 ≤ y by omega) (by omega) (show 0 ≤ y by omega)
      omega
/-- the reference's sum of squares -/
def rsq (s : ByteArray) (n : Nat) : Int := sumZ (fun k => likR s (k + 1) (n - (k + 1)) * likR s (k + 1) (n - (k + 1))) (n - 1)
theorem rsq_row (n : Nat) (p : Nat → Bool) : rsq (rowS n p) n = sqN n p := by
  unfold rsq sqN
  exact sumZ_congr fun k hk => by rw [likR_row n (k + 1) p (by omega)]
theorem sumZ_mono {f g : Nat → Int} {n : Nat} (h : ∀ i, i < n → f i ≤ g i) : sumZ f n ≤ sumZ g n := by
  induction n with
  | zero => exact Int.le_refl _
  | succ n ih =>
    have h1 := ih (fun i hi => h i (by omega))
    have h2 := h n (by omega)
    simp only [sumZ]
    omega
theorem bar_best {n x : Nat} (h : barB n x = true) (p : Nat → Bool) : rsq (rowN n x) n ≤ rsq (rowS n p) n := by
  unfold rowN
  rw [rsq_row, rsq_row]
  unfold sqN
  refine sumZ_mono fun k hk => ?_
  have hb := allN_true.1 h (k + 1) (by omega)
  have hb2 : -1 ≤ likeN n (bitP n x) (k + 1) ∧ likeN n (bitP n x) (k + 1) ≤ 1 := by simpa using hb
  exact sq_small (m := n - (k + 1)) hb2.1 hb2.2 (lkN_odd _ _ _) (lkN_odd _ _ _)
theorem bx_is {n : Nat} (h : bx n < 2 ^ n) : barB n (bx n) = true := (least_some h).1
end Go.Proofs.YtcgbfhjefepafaaDoor
