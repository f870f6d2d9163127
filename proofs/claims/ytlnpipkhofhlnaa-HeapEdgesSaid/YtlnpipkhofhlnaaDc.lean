/-
  The count of a valid yard: the determinant of its matrix, exact, from 1 on, and below 250000.
-/
import Derived.Test.YtlnpipkhofhlnaaQ
import Derived.Test.YtlnpipkhofhlnaaDa
namespace Go.Proofs.Ytlnpipkhofhlnaa
open Go.RowKit

theorem sumN_shift (f : Nat → Nat) (n : Nat) : sumN f (n + 1) = f 0 + sumN (fun j => f (j + 1)) n := by
  induction n with
  | zero => simp [sumN]
  | succ n ih => rw [sumN, ih]; simp only [sumN]; omega
theorem YardOk.row {N : Nat} {D : Nat → Nat} {J : Nat → Nat → Nat} (ok : YardOk (N + 1) D J) {v : Nat} (hv : v < N + 1) : (D v : Int) = (J v 0 : Int) + sumZ (fun j => (J v (j + 1) : Int)) N := by
  rw [sumZ_nat (fun j => J v (j + 1)), ← ok.sum v hv, sumN_shift]; omega
/-- what a row of the matrix sums up to over a set: the edges that lead out of it -/
theorem lap_on {N : Nat} {D : Nat → Nat} {J : Nat → Nat → Nat} (ok : YardOk (N + 1) D J) {U : Nat → Bool} {i : Nat} (hi : i < N) (hU : U i = true) : onS U (lapM D J i) N = (J (i + 1) 0 : Int) + sumZ (fun j => if U j then 0 else (J (i + 1) (j + 1) : Int)) N := by
  have h1 := ok.row (v := i + 1) (by omega)
  have h2 : sumZ (fun j => (J (i + 1) (j + 1) : Int)) N = sumZ (fun j => if U j then (J (i + 1) (j + 1) : Int) else 0) N + sumZ (fun j => if U j then 0 else (J (i + 1) (j + 1) : Int)) N := by
    rw [← sumZ_add]; exact sumZ_congr (fun j _ => by show _ = (if U j then _ else _) + (if U j then _ else _); cases U j <;> simp)
  have h3 : onS U (lapM D J i) N = sumZ (fun j => if j = i then (D (i + 1) : Int) else 0) N + (-1) * sumZ (fun j => if U j then (J (i + 1) (j + 1) : Int) else 0) N := by
    rw [← sumZ_mul, ← sumZ_add]
    refine sumZ_congr (fun j hj => ?_)
    show (if U j then lapM D J i j else 0) = (if j = i then (D (i + 1) : Int) else 0) + -1 * (if U j then _ else _)
    unfold lapM
    by_cases e : i = j
    · subst e; rw [hU, ok.J0 (i + 1) (by omega)]; simp
    · rw [if_neg e, if_neg (Ne.symm e)]; cases U j <;> simp
  rw [sumZ_one (f := fun j => if j = i then (D (i + 1) : Int) else 0) hi (fun j _ hne => if_neg hne)] at h3
  simp only [if_true] at h3
  omega
/-- every set of vertices has one from which an edge leads out, downwards -/
theorem Ranked.out {N : Nat} {J : Nat → Nat → Nat} {p : Nat → Nat} (hp : Ranked (N + 1) J p) {U : Nat → Bool} : (∃ i, i < N ∧ U i = true) → ∃ i, i < N ∧ U i = true ∧ (1 ≤ J (i + 1) 0 ∨ ∃ j, j < N ∧ U j = false ∧ 1 ≤ J (i + 1) (j + 1)) := by
  have key : ∀ b i, p (i + 1) ≤ b → i < N → U i = true → ∃ i, i < N ∧ U i = true ∧ (1 ≤ J (i + 1) 0 ∨ ∃ j, j < N ∧ U j = false ∧ 1 ≤ J (i + 1) (j + 1)) := by
    intro b
    induction b with
    | zero =>
      intro i hb hi hU
      obtain ⟨_, u, _, hpu, _⟩ := hp.2 (i + 1) (by omega) (by omega)
      omega
    | succ b ih =>
      intro i hb hi hU
      obtain ⟨_, u, hu, hpu, hJ⟩ := hp.2 (i + 1) (by omega) (by omega)
      cases u with
      | zero => exact ⟨i, hi, hU, .inl hJ⟩
      | succ j =>
        cases e : U j with
        | false => exact ⟨i, hi, hU, .inr ⟨j, by omega, e, hJ⟩⟩
        | true => exact ih j (by omega) (by omega) e
  rintro ⟨i, hi, hU⟩
  exact key _ i (Nat.le_refl _) hi hU
theorem sumZ_ge {f : Nat → Int} {n v : Nat} (hv : v < n) (h : ∀ i, i < n → 0 ≤ f i) : f v ≤ sumZ f n := by
  have h1 := sumZ_le (f := fun i => if i = v then f i else 0) (g := f) (n := n) (fun i hi => by
    show (if i = v then f i else 0) ≤ f i
    split
    · omega
    · exact h i hi)
  rw [sumZ_one (f := fun i => if i = v then f i else 0) hv (fun i _ hne => if_neg hne)] at h1
  simpa using h1
theorem lap_inv {N : Nat} {D : Nat → Nat} {J : Nat → Nat → Nat} {p : Nat → Nat} (ok : YardOk (N + 1) D J) (hp : Ranked (N + 1) J p) : Inv N (lapM D J) (fun i => (D (i + 1) : Int)) 0 := by
  have hD0 : DD (lapM D J) 0 = 1 := rfl
  have hA : ∀ i, AA (lapM D J) 0 i = lapM D J i := fun i => funext fun j => AA_zero _ i j
  have hnn : ∀ (U : Nat → Bool) (i : Nat), ∀ j, j < N → 0 ≤ (if U j then 0 else (J (i + 1) (j + 1) : Int)) := fun U i j _ => by split <;> omega
  refine ⟨by rw [hD0]; decide, fun i _ hi => ⟨1, fun _ => 0, by decide, fun j hj => ?_⟩, fun i j _ hi _ hj hij => ?_, fun U i _ hU hi => ?_, fun U _ hne => ?_, fun i _ hi => ?_⟩
  · rw [hD0, hA]; simp [comb]
  · rw [hA]; unfold lapM; rw [if_neg hij]; omega
  · rw [hA, lap_on ok hi hU]
    have := sumZ_nonneg (n := N) (hnn U i)
    omega
  · obtain ⟨i, hi, hU, hor⟩ := hp.out hne
    refine ⟨i, hi, hU, ?_⟩
    rw [hA, lap_on ok hi hU]
    have h0 := sumZ_nonneg (n := N) (hnn U i)
    rcases hor with h | ⟨j, hj, hUj, hJ⟩
    · omega
    · have := sumZ_ge (f := fun j => if U j then 0 else (J (i + 1) (j + 1) : Int)) hj (hnn U i)
      simp only [hUj] at this
      simp at this
      omega
  · rw [hA, hD0]; unfold lapM; simp
theorem lap_at {N : Nat} {D : Nat → Nat} {J : Nat → Nat → Nat} {p : Nat → Nat} (ok : YardOk (N + 1) D J) (hp : Ranked (N + 1) J p) : ∀ k, k ≤ N → Inv N (lapM D J) (fun i => (D (i + 1) : Int)) k := by
  intro k
  induction k with
  | zero => intro _; exact lap_inv ok hp
  | succ k ih => intro h; exact (ih (by omega)).step (by omega)
def prodN (f : Nat → Nat) : Nat → Nat
  | 0 => 1
  | k + 1 => prodN f k * f k
theorem DD_le {N : Nat} {D : Nat → Nat} {J : Nat → Nat → Nat} {p : Nat → Nat} (ok : YardOk (N + 1) D J) (hp : Ranked (N + 1) J p) : ∀ k, k ≤ N → DD (lapM D J) k ≤ (prodN (fun i => D (i + 1)) k : Int) := by
  intro k
  induction k with
  | zero => intro _; exact Int.le_refl 1
  | succ k ih =>
    intro h
    have h1 := (lap_at ok hp k (by omega)).diag k (Nat.le_refl _) (by omega)
    rw [DD_succ]
    show AA (lapM D J) k k k ≤ _
    simp only [prodN, Int.natCast_mul]
    exact Int.le_trans h1 (Int.mul_le_mul_of_nonneg_right (ih (by omega)) (by omega))
theorem prodN_20 {f : Nat → Nat} {k : Nat} (h : ∀ i, i < k → f i ≤ 20) : prodN f k ≤ 20 ^ k := by
  induction k with
  | zero => exact Nat.le_refl 1
  | succ k ih => simp only [prodN, Nat.pow_succ]; exact Nat.mul_le_mul (ih (fun i hi => h i (by omega))) (h k (by omega))
theorem cube_le {x : Nat} (hx : x ≤ 40) : x ^ 3 * 3 ^ x ≤ 11 * 5 ^ x := by
  have h : ∀ x, x < 41 → x ^ 3 * 3 ^ x ≤ 11 * 5 ^ x := by decide +kernel
  exact h x (by omega)
theorem prodN_cube (f : Nat → Nat) (k : Nat) (h : sumN f k ≤ 40) : prodN f k ^ 3 * 3 ^ sumN f k ≤ 11 ^ k * 5 ^ sumN f k := by
  induction k with
  | zero => exact Nat.le_refl 1
  | succ k ih =>
    simp only [prodN, sumN] at h ⊢
    have h1 := Nat.mul_le_mul (ih (by omega)) (cube_le (x := f k) (by omega))
    rw [Nat.mul_pow, Nat.pow_add 3, Nat.pow_add 5, Nat.pow_succ (n := 11)]
    generalize prodN f k ^ 3 = a at *
    generalize f k ^ 3 = b at *
    generalize 3 ^ sumN f k = c at *
    generalize 3 ^ f k = d at *
    generalize 5 ^ sumN f k = e at *
    generalize 5 ^ f k = g at *
    generalize 11 ^ k = q at *
    calc a * b * (c * d) = a * c * (b * d) := by grind
      _ ≤ q * e * (11 * g) := h1
      _ = q * 11 * (e * g) := by grind
theorem prodN_top {f : Nat → Nat} {k : Nat} (hk : k ≤ 7) (h : sumN f k ≤ 40) : prodN f k < 250000 := by
  rcases Nat.lt_or_ge (prodN f k) 250000 with h1 | h1
  · exact h1
  · exfalso
    have a := Nat.pow_le_pow_left h1 3
    have b := prodN_cube f k h
    have c : 11 ^ k ≤ 11 ^ 7 := Nat.pow_le_pow_right (by decide) hk
    have d : 3 ^ (40 - sumN f k) ≤ 5 ^ (40 - sumN f k) := Nat.pow_le_pow_left (by decide) _
    have e : (11 : Nat) ^ 7 * 5 ^ 40 < 250000 ^ 3 * 3 ^ 40 := by decide +kernel
    have e3 : (3 : Nat) ^ 40 = 3 ^ sumN f k * 3 ^ (40 - sumN f k) := by rw [← Nat.pow_add]; congr 1; omega
    have e5 : (5 : Nat) ^ 40 = 5 ^ sumN f k * 5 ^ (40 - sumN f k) := by rw [← Nat.pow_add]; congr 1; omega
    rw [e3, e5] at e
    have g1 : 250000 ^ 3 * (3 ^ sumN f k * 3 ^ (40 - sumN f k)) ≤ prodN f k ^ 3 * (3 ^ sumN f k * 3 ^ (40 - sumN f k)) := Nat.mul_le_mul_right _ a
    have g2 : prodN f k ^ 3 * (3 ^ sumN f k * 3 ^ (40 - sumN f k)) ≤ 11 ^ k * 5 ^ sumN f k * 5 ^ (40 - sumN f k) := by rw [← Nat.mul_assoc]; exact Nat.mul_le_mul b d
    have g3 : 11 ^ k * 5 ^ sumN f k * 5 ^ (40 - sumN f k) ≤ 11 ^ 7 * (5 ^ sumN f k * 5 ^ (40 - sumN f k)) := by rw [Nat.mul_assoc]; exact Nat.mul_le_mul_right _ c
    exact Nat.lt_irrefl _ (Nat.lt_of_lt_of_le e (Nat.le_trans g1 (Nat.le_trans g2 g3)))
/-- what stands among the rest is bounded -/
theorem AA_bd {N : Nat} {D : Nat → Nat} {J : Nat → Nat → Nat} {p : Nat → Nat} (ok : YardOk (N + 1) D J) (hp : Ranked (N + 1) J p) {k i j : Nat} (hki : k ≤ i) (hi : i < N) (hkj : k ≤ j) (hj : j < N) :
    - ((20 ^ (k + 1) : Nat) : Int) ≤ AA (lapM D J) k i j ∧ AA (lapM D J) k i j ≤ ((20 ^ (k + 1) : Nat) : Int) := by
  have inv := lap_at ok hp k (by omega)
  have h1 := inv.diag i hki hi
  have h2 := DD_le ok hp k (by omega)
  have h3 := prodN_20 (f := fun i => D (i + 1)) (k := k) (fun l hl => ok.D20 (l + 1) (by omega))
  have hDi := ok.D20 (i + 1) (by omega)
  have hdiag : AA (lapM D J) k i i ≤ ((20 ^ (k + 1) : Nat) : Int) := by
    have a : DD (lapM D J) k * (D (i + 1) : Int) ≤ ((20 ^ k : Nat) : Int) * 20 := by
      refine Int.le_trans (Int.mul_le_mul_of_nonneg_right (b := ((20 ^ k : Nat) : Int)) (by omega) (by omega)) (Int.mul_le_mul_of_nonneg_left (by omega) (by omega))
    have : (20 ^ (k + 1) : Nat) = 20 ^ k * 20 := Nat.pow_succ 20 k
    rw [this, Int.natCast_mul]
    exact Int.le_trans h1 a
  have h0 := inv.nonneg (fun x => decide (x = i)) i (fun x hx => by have := of_decide_eq_true hx; omega) (by simp) hi
  rw [onS_single _ hi] at h0
  by_cases e : i = j
  · subst e; omega
  · have h4 := inv.off i j hki hi hkj hj e
    have h5 := inv.nonneg (ins (fun x => decide (x = j)) i) i (fun x hx => by
      unfold ins at hx
      by_cases ex : x = i
      · omega
      · rw [if_neg ex] at hx; have := of_decide_eq_true hx; omega) (by simp [ins]) hi
    rw [onS_ins _ hi (by simp [e]), onS_single _ hj] at h5
    omega
theorem detS_eq {N : Nat} {D : Nat → Nat} {J : Nat → Nat → Nat} {p : Nat → Nat} (ok : YardOk (N + 1) D J) (hp : Ranked (N + 1) J p) : ∀ g k M, k + g = N → (∀ i j, k ≤ i → i < N → k ≤ j → j < N → M i j = AA (lapM D J) k i j) → detS N g k M (DD (lapM D J) k) = DD (lapM D J) N := by
  have hN7 : N ≤ 7 := by have := ok.n8; omega
  intro g
  induction g with
  | zero =>
    intro k M hk _
    obtain rfl : k = N := by omega
    have h0 := (lap_at ok hp k (Nat.le_refl _)).D0
    have h2 := DD_le ok hp k (Nat.le_refl _)
    have h3 := prodN_20 (f := fun i => D (i + 1)) (k := k) (fun l hl => ok.D20 (l + 1) (by omega))
    have h4 : (20 : Nat) ^ k ≤ 20 ^ 7 := Nat.pow_le_pow_right (by decide) hN7
    have h5 : (20 : Nat) ^ 7 = 1280000000 := by decide
    simp only [detS]
    rw [IntWalk.wrap64_in _ (by omega)]
    omega
  | succ g ih =>
    intro k M hk hM
    have hkN : k < N := by omega
    have inv := lap_at ok hp k (by omega)
    have hpk := inv.pivot hkN
    have hMk := hM k k (Nat.le_refl _) hkN (Nat.le_refl _) hkN
    have hD0 := inv.D0
    have hl : least (fun d => M (k + d) k != 0) (N - k) = 0 := least_hit (k := 0) rfl (by show (M (k + 0) k != 0) = true; rw [Nat.add_zero, hMk]; simp; omega) (by omega)
    have hpv : pivI N M k = (k : Int) := by
      unfold pivI; rw [hl, if_pos (by omega)]; simp
    have hsw : swapM M k k = M := by
      funext i j
      unfold swapM swapI
      by_cases e : i = k
      · subst e; simp
      · simp [e]
    simp only [detS]
    rw [if_neg (by rw [hpv]; omega), hpv, Int.toNat_natCast, hsw, hMk, show AA (lapM D J) k k k = DD (lapM D J) (k + 1) from (DD_succ _ _).symm]
    refine ih (k + 1) _ (by omega) (fun i j hki hi hkj hj => ?_)
    unfold elimM
    rw [if_pos ⟨by omega, by omega⟩, hM i j (by omega) hi (by omega) hj, hMk, hM i k (by omega) hi (Nat.le_refl _) hkN, hM k j (Nat.le_refl _) hkN (by omega) hj]
    have hex := (inv.exact (by omega : k < i) hi).1 j (by omega) hj
    have b1 := AA_bd ok hp (k := k) (i := i) (j := j) (by omega) hi (by omega) hj
    have b2 := AA_bd ok hp (k := k) (i := k) (j := k) (by omega) hkN (by omega) hkN
    have b3 := AA_bd ok hp (k := k) (i := i) (j := k) (by omega) hi (by omega) hkN
    have b4 := AA_bd ok hp (k := k) (i := k) (j := j) (by omega) hkN (by omega) hj
    have b5 := AA_bd ok hp (k := k + 1) (i := i) (j := j) (by omega) hi (by omega) hj
    have p6 : (20 : Nat) ^ (k + 1) ≤ 20 ^ 6 := Nat.pow_le_pow_right (by decide) (by omega)
    have p7 : (20 : Nat) ^ (k + 1 + 1) ≤ 20 ^ 7 := Nat.pow_le_pow_right (by decide) (by omega)
    have e6 : (20 : Nat) ^ 6 = 64000000 := by decide
    have e7 : (20 : Nat) ^ 7 = 1280000000 := by decide
    generalize AA (lapM D J) k i j = x at *
    generalize AA (lapM D J) k k k = a at *
    generalize AA (lapM D J) k i k = b at *
    generalize AA (lapM D J) k k j = c at *
    generalize AA (lapM D J) (k + 1) i j = r at *
    have mul_bd : ∀ u v : Int, -64000000 ≤ u ∧ u ≤ 64000000 → -64000000 ≤ v ∧ v ≤ 64000000 → -4096000000000000 ≤ u * v ∧ u * v ≤ 4096000000000000 := fun u v hu hv => by
      have h : (u * v).natAbs ≤ 64000000 * 64000000 := by
        rw [Int.natAbs_mul]
        exact Nat.mul_le_mul (by omega) (by omega)
      omega
    have m1 := mul_bd x a (by omega) (by omega)
    have m2 := mul_bd b c (by omega) (by omega)
    unfold elimV
    rw [IntWalk.wrap64_in (x * a) (by omega), IntWalk.wrap64_in (b * c) (by omega), IntWalk.wrap64_in (x * a - b * c) (by omega), ← hex, Int.mul_tdiv_cancel_left _ (by omega), IntWalk.wrap64_in _ (by omega)]
theorem count_eq {N : Nat} {D : Nat → Nat} {J : Nat → Nat → Nat} {p : Nat → Nat} (ok : YardOk (N + 1) D J) (hp : Ranked (N + 1) J p) : countI (N + 1) D J = DD (lapM D J) N := by
  unfold countI detI
  exact detS_eq ok hp N 0 _ (by simp) (fun i j _ _ _ _ => (AA_zero _ i j).symm)
theorem count_bd {N : Nat} {D : Nat → Nat} {J : Nat → Nat → Nat} {p : Nat → Nat} (ok : YardOk (N + 1) D J) (hp : Ranked (N + 1) J p) (hs : sumN (fun i => D (i + 1)) N ≤ 40) : 1 ≤ countI (N + 1) D J ∧ countI (N + 1) D J < 250000 := by
  rw [count_eq ok hp]
  have h0 := (lap_at ok hp N (Nat.le_refl _)).D0
  have h1 := DD_le ok hp N (Nat.le_refl _)
  have h2 := prodN_top (by have := ok.n8; omega) hs
  omega
end Go.Proofs.Ytlnpipkhofhlnaa
