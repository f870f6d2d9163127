/-
  Matrices of signs, in plain numbers: if the rows are at right angles, so are the columns; with 3 rows or more their number is a multiple of 4.
-/
import Derived.Test.YtofgadehblpoiaaDoorZa
namespace Go.Proofs.YtofgadehblpoiaaDoor
open Go.RowKit Go.Deep

/-- the rows of n signs are at right angles -/
def Rgt (n : Nat) (M : Nat → Nat → Bool) : Prop := ∀ i k, k < i → i < n → lkN (M i) (M k) n = 0
def trM (M : Nat → Nat → Bool) : Nat → Nat → Bool := fun i j => M j i
theorem lkN_comm (p q : Nat → Bool) (n : Nat) : lkN p q n = lkN q p n := sumZ_congr fun _ _ => Int.mul_comm _ _
theorem lkN_self (p : Nat → Bool) (n : Nat) : lkN p p n = n := by
  unfold lkN
  rw [sumZ_congr (g := fun _ => 1) (fun i _ => sg_sq _), sumZ_const, Int.one_mul]
theorem Rgt.off {n : Nat} {M : Nat → Nat → Bool} (h : Rgt n M) {i k : Nat} (hi : i < n) (hk : k < n) (e : i ≠ k) : lkN (M i) (M k) n = 0 := by
  rcases Nat.lt_or_gt_of_ne e with h1 | h1
  · rw [lkN_comm]; exact h k i h1 hk
  · exact h i k h1 hi
theorem sumZ_prod (f g : Nat → Int) (n m : Nat) : sumZ f n * sumZ g m = sumZ (fun i => sumZ (fun j => f i * g j) m) n := by
  rw [← sumZ_mulr]
  exact sumZ_congr fun i _ => by (try dsimp only); rw [sumZ_mul]
theorem four {a b c d : Int} : (a * b) * (c * d) = (a * c) * (b * d) := by
  rw [Int.mul_assoc, Int.mul_assoc, Int.mul_left_comm b c d]
theorem sum_four (F : Nat → Nat → Nat → Nat → Int) (n : Nat) :
    sumZ (fun a => sumZ (fun b => sumZ (fun i => sumZ (fun j => F i j a b) n) n) n) n = sumZ (fun i => sumZ (fun j => sumZ (fun a => sumZ (fun b => F i j a b) n) n) n) n := by
  have h1 : ∀ a, sumZ (fun b => sumZ (fun i => sumZ (fun j => F i j a b) n) n) n = sumZ (fun i => sumZ (fun j => sumZ (fun b => F i j a b) n) n) n := fun a => by
    rw [sumZ_swap]
    exact sumZ_congr fun i _ => by (try dsimp only); rw [sumZ_swap]
  rw [sumZ_congr (g := fun a => sumZ (fun i => sumZ (fun j => sumZ (fun b => F i j a b) n) n) n) (fun a _ => h1 a)]
  rw [sumZ_swap]
  exact sumZ_congr fun i _ => by (try dsimp only); rw [sumZ_swap]
theorem sumZ_nonneg {f : Nat → Int} {n : Nat} (h : ∀ i, i < n → 0 ≤ f i) : 0 ≤ sumZ f n := by
  induction n with
  | zero => exact Int.le_refl _
  | succ n ih => simp only [sumZ]; have := ih (fun i hi => h i (by omega)); have := h n (by omega); omega
theorem sumZ_zero_each {f : Nat → Int} {n : Nat} (h : ∀ i, i < n → 0 ≤ f i) (h0 : sumZ f n = 0) : ∀ i, i < n → f i = 0 := by
  induction n with
  | zero => intro i hi; omega
  | succ n ih =>
    simp only [sumZ] at h0
    have h1 := sumZ_nonneg (fun i hi => h i (Nat.lt_succ_of_lt hi))
    have h2 := h n (by omega)
    intro i hi
    by_cases e : i = n
    · subst e; omega
    · exact ih (fun i hi => h i (by omega)) (by omega) i (by omega)
theorem sq_nonneg (x : Int) : 0 ≤ x * x := by
  rcases Int.le_total 0 x with h | h
  · exact Int.mul_nonneg h h
  · exact Int.mul_nonneg_of_nonpos_of_nonpos h h
/-- all squares of the products of columns are those of the products of rows -/
theorem cols_rows (M : Nat → Nat → Bool) (n : Nat) :
    sumZ (fun a => sumZ (fun b => lkN (trM M a) (trM M b) n * lkN (trM M a) (trM M b) n) n) n = sumZ (fun i => sumZ (fun j => lkN (M i) (M j) n * lkN (M i) (M j) n) n) n := by
  have hc : ∀ a b, lkN (trM M a) (trM M b) n * lkN (trM M a) (trM M b) n = sumZ (fun i => sumZ (fun j => (sg (M i a) * sg (M j a)) * (sg (M i b) * sg (M j b))) n) n := fun a b => by
    unfold lkN trM
    rw [sumZ_prod]
    exact sumZ_congr fun i _ => sumZ_congr fun j _ => four
  have hr : ∀ i j, lkN (M i) (M j) n * lkN (M i) (M j) n = sumZ (fun a => sumZ (fun b => (sg (M i a) * sg (M j a)) * (sg (M i b) * sg (M j b))) n) n := fun i j => by
    unfold lkN
    rw [sumZ_prod]
  simp only [hc, hr]
  exact sum_four (fun i j a b => (sg (M i a) * sg (M j a)) * (sg (M i b) * sg (M j b))) n
theorem right_trans {n : Nat} {M : Nat → Nat → Bool} (h : Rgt n M) : Rgt n (trM M) := by
  have h1 := cols_rows M n
  have h2 : sumZ (fun i => sumZ (fun j => lkN (M i) (M j) n * lkN (M i) (M j) n) n) n = sumZ (fun _ => (n : Int) * n) n :=
    sumZ_congr fun i hi => by
      (try dsimp only)
      rw [sumZ_congr (g := fun j => if j = i then (n : Int) * n else 0) (fun j hj => by
        (try dsimp only)
        by_cases e : j = i
        · subst e; rw [if_pos rfl, lkN_self]
        · rw [if_neg e, h.off hi hj (fun x => e x.symm)]; rfl)]
      exact sumZ_pick (fun _ => (n : Int) * n) n i hi
  have h3 : sumZ (fun a => sumZ (fun b => lkN (trM M a) (trM M b) n * lkN (trM M a) (trM M b) n) n) n =
      sumZ (fun a => sumZ (fun b => if b = a then 0 else lkN (trM M a) (trM M b) n * lkN (trM M a) (trM M b) n) n) n + sumZ (fun _ => (n : Int) * n) n := by
    rw [← sumZ_add]
    refine sumZ_congr fun a ha => ?_
    (try dsimp only)
    rw [← sumZ_pick (fun _ => (n : Int) * n) n a ha, ← sumZ_add]
    refine sumZ_congr fun b hb => ?_
    (try dsimp only)
    by_cases e : b = a
    · subst e; rw [if_pos rfl, if_pos rfl, lkN_self]; omega
    · rw [if_neg e, if_neg e]; omega
  have h4 : sumZ (fun a => sumZ (fun b => if b = a then 0 else lkN (trM M a) (trM M b) n * lkN (trM M a) (trM M b) n) n) n = 0 := by omega
  have hnn : ∀ a b, 0 ≤ (if b = a then (0 : Int) else lkN (trM M a) (trM M b) n * lkN (trM M a) (trM M b) n) := fun a b => by
    split
    · exact Int.le_refl _
    · exact sq_nonneg _
  have h5 := sumZ_zero_each (fun a _ => sumZ_nonneg (fun b _ => hnn a b)) h4
  intro i k hk hi
  have h6 := sumZ_zero_each (fun b _ => hnn i b) (h5 i hi) k (by omega)
  (try simp only at h6)
  rw [if_neg (by omega)] at h6
  rcases Int.mul_eq_zero.1 h6 with e | e <;> exact e
theorem trM_trM (M : Nat → Nat → Bool) : trM (trM M) = M := rfl
theorem right_iff {n : Nat} {M : Nat → Nat → Bool} : Rgt n (trM M) ↔ Rgt n M := ⟨fun h => by have := right_trans h; rwa [trM_trM] at this, right_trans⟩
theorem sumZ_mod4 {f : Nat → Int} {n : Nat} (h : ∀ i, i < n → f i % 4 = 0) : sumZ f n % 4 = 0 := by
  induction n with
  | zero => rfl
  | succ n ih => simp only [sumZ]; have := ih (fun i hi => h i (by omega)); have := h n (by omega); omega
theorem right_four {n : Nat} {M : Nat → Nat → Bool} (h : Rgt n M) (hn : 3 ≤ n) : n % 4 = 0 := by
  have e1 := h.off (i := 0) (k := 1) (by omega) (by omega) (by omega)
  have e2 := h.off (i := 0) (k := 2) (by omega) (by omega) (by omega)
  have e3 := h.off (i := 1) (k := 2) (by omega) (by omega) (by omega)
  have e0 := lkN_self (M 0) n
  unfold lkN at e0 e1 e2 e3
  have h1 : sumZ (fun j => (sg (M 0 j) + sg (M 1 j)) * (sg (M 0 j) + sg (M 2 j))) n = n := by
    rw [sumZ_congr (g := fun j => (sg (M 0 j) * sg (M 0 j) + sg (M 0 j) * sg (M 2 j)) + (sg (M 0 j) * sg (M 1 j) + sg (M 1 j) * sg (M 2 j))) (fun j _ => by
      (try dsimp only)
      rw [Int.add_mul, Int.mul_add, Int.mul_add, Int.mul_comm (sg (M 1 j)) (sg (M 0 j))]), sumZ_add, sumZ_add, sumZ_add, e0, e1, e2, e3]
    omega
  have h2 := sumZ_mod4 (f := fun j => (sg (M 0 j) + sg (M 1 j)) * (sg (M 0 j) + sg (M 2 j))) (n := n) (fun j _ => by
    (try dsimp only)
    cases M 0 j <;> cases M 1 j <;> cases M 2 j <;> rfl)
  rw [h1] at h2
  omega
end Go.Proofs.YtofgadehblpoiaaDoor
