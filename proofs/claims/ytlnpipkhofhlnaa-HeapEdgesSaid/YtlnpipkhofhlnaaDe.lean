/-
  Determinants by the first row, minors, the adjoint. No program is named here.
-/
import Derived.Test.YtlnpipkhofhlnaaAd
namespace Go.Proofs.Ytlnpipkhofhlnaa
open Go.RowKit

def skp (c j : Nat) : Nat := if j < c then j else j + 1
def minM (M : Nat → Nat → Int) (r c : Nat) : Nat → Nat → Int := fun i j => M (skp r i) (skp c j)
def detE : Nat → (Nat → Nat → Int) → Int
  | 0, _ => 1
  | N + 1, M => sumZ (fun c => sgP c * M 0 c * detE N (minM M 0 c)) (N + 1)
def detB : Nat → Int
  | 0 => 1
  | N + 1 => ((N : Int) + 1) * (20 * detB N)
theorem detB_pos : ∀ N, 0 ≤ detB N := by
  intro N
  induction N with
  | zero => decide
  | succ N ih => exact Int.mul_nonneg (by omega) (Int.mul_nonneg (by decide) ih)
theorem detB_step {N : Nat} (h : N ≤ 6) : 20 * detB N ≤ 921600000000 := by
  have h0 := detB_pos
  rcases Nat.lt_or_ge N 1 with e | e
  · obtain rfl : N = 0 := by omega
    decide
  · obtain e | e | e | e | e | e : N = 1 ∨ N = 2 ∨ N = 3 ∨ N = 4 ∨ N = 5 ∨ N = 6 := by omega
    all_goals (subst e; decide)
theorem detB_top {N : Nat} (h : N ≤ 7) : detB N ≤ 6451200000000 := by
  obtain e | e | e | e | e | e | e | e : N = 0 ∨ N = 1 ∨ N = 2 ∨ N = 3 ∨ N = 4 ∨ N = 5 ∨ N = 6 ∨ N = 7 := by omega
  all_goals (subst e; decide)
def Small (N : Nat) (M : Nat → Nat → Int) : Prop := ∀ i j, i < N → j < N → -20 ≤ M i j ∧ M i j ≤ 20
theorem skp_lt {c j N : Nat} (h : j < N) : skp c j < N + 1 := by unfold skp; split <;> omega
theorem Small.min {N : Nat} {M : Nat → Nat → Int} (h : Small (N + 1) M) (r c : Nat) : Small N (minM M r c) := fun _ _ hi hj => h _ _ (skp_lt hi) (skp_lt hj)
theorem sgP_cases (k : Nat) : sgP k = 1 ∨ sgP k = -1 := by
  induction k with
  | zero => exact Or.inl rfl
  | succ k ih => simp only [sgP]; omega
theorem mul_bd {a b A B : Int} (ha : -A ≤ a) (ha2 : a ≤ A) (hb : -B ≤ b) (hb2 : b ≤ B) : -(A * B) ≤ a * b ∧ a * b ≤ A * B := by
  have h1 := Int.mul_nonneg (show 0 ≤ A - a by omega) (show 0 ≤ B - b by omega)
  have h2 := Int.mul_nonneg (show 0 ≤ A + a by omega) (show 0 ≤ B + b by omega)
  have h3 := Int.mul_nonneg (show 0 ≤ A - a by omega) (show 0 ≤ B + b by omega)
  have h4 := Int.mul_nonneg (show 0 ≤ A + a by omega) (show 0 ≤ B - b by omega)
  constructor <;> grind
theorem sg_bd {c : Nat} {x : Int} (h : -20 ≤ x ∧ x ≤ 20) : -20 ≤ sgP c * x ∧ sgP c * x ≤ 20 := by
  rcases sgP_cases c with e | e <;> rw [e] <;> omega
theorem detE_bd : ∀ {N : Nat} {M : Nat → Nat → Int}, Small N M → -detB N ≤ detE N M ∧ detE N M ≤ detB N := by
  intro N
  induction N with
  | zero => intro M _; exact ⟨show (-1 : Int) ≤ 1 by decide, show (1 : Int) ≤ 1 by decide⟩
  | succ N ih =>
    intro M h
    have ht : ∀ c, c < N + 1 → -(20 * detB N) ≤ sgP c * M 0 c * detE N (minM M 0 c) ∧ sgP c * M 0 c * detE N (minM M 0 c) ≤ 20 * detB N := fun c hc => by
      have h1 := ih (h.min 0 c)
      have h2 := sg_bd (c := c) (h 0 c (by omega) hc)
      exact mul_bd h2.1 h2.2 h1.1 h1.2
    have e1 := sumZ_bound (f := fun c => sgP c * M 0 c * detE N (minM M 0 c)) (c := 20 * detB N) (n := N + 1) (fun i hi => (ht i hi).2)
    have e2 := sumZ_bound (f := fun c => -1 * (sgP c * M 0 c * detE N (minM M 0 c))) (c := 20 * detB N) (n := N + 1) (fun i hi => by have := (ht i hi).1; omega)
    rw [sumZ_mul] at e2
    have e3 : detB (N + 1) = 20 * detB N * ((N + 1 : Nat) : Int) := by simp only [detB]; grind
    rw [e3]
    show -(20 * detB N * ((N + 1 : Nat) : Int)) ≤ sumZ (fun c => sgP c * M 0 c * detE N (minM M 0 c)) (N + 1) ∧ _
    exact ⟨by omega, e1⟩
theorem detE_congr : ∀ {N : Nat} {M M' : Nat → Nat → Int}, (∀ i j, i < N → j < N → M i j = M' i j) → detE N M = detE N M' := by
  intro N
  induction N with
  | zero => intro M M' _; rfl
  | succ N ih =>
    intro M M' h
    simp only [detE]
    refine sumZ_congr (fun c hc => ?_)
    rw [h 0 c (by omega) hc, ih (M := minM M 0 c) (M' := minM M' 0 c) (fun i j hi hj => h _ _ (skp_lt hi) (skp_lt hj))]
/-! ### the same as by lists -/
theorem TT_map (g : Nat → Nat) (r : Nat → Int) : ∀ (cs : List Nat) (f : List Nat → Int), TT r f (cs.map g) = TT (fun j => r (g j)) (fun l => f (l.map g)) cs := by
  intro cs
  induction cs with
  | nil => intro f; rfl
  | cons c cs ih =>
    intro f
    simp only [List.map_cons, TT]
    rw [ih]
theorem FF_map (g : Nat → Nat) : ∀ (rs : List (Nat → Int)) (cs : List Nat), FF rs (cs.map g) = FF (rs.map (fun r j => r (g j))) cs := by
  intro rs
  induction rs with
  | nil => intro cs; rfl
  | cons r rs ih =>
    intro cs
    show TT r (FF rs) (cs.map g) = TT (fun j => r (g j)) (FF (rs.map (fun r j => r (g j)))) cs
    rw [TT_map]
    congr 1
    funext l
    exact ih l
theorem range_skip (N c : Nat) : (List.range (N + 1)).eraseIdx c = if c ≤ N then (List.range N).map (skp c) else List.range (N + 1) := by
  split
  · rename_i h
    apply List.ext_getElem?
    intro i
    rw [List.getElem?_eraseIdx, List.getElem?_map]
    unfold skp
    by_cases e : i < c
    · rw [if_pos e, List.getElem?_range (by omega), List.getElem?_range (by omega)]
      simp [e]
    · rw [if_neg e]
      by_cases e2 : i < N
      · rw [List.getElem?_range (by omega), List.getElem?_range e2]
        simp [e]
      · rw [List.getElem?_eq_none (by simp; omega), List.getElem?_eq_none (by simp; omega)]
        rfl
  · rename_i h
    exact List.eraseIdx_of_length_le (by simp; omega)
theorem erase_map {α β : Type} (f : α → β) : ∀ (l : List α) (k : Nat), (l.map f).eraseIdx k = (l.eraseIdx k).map f := by
  intro l
  induction l with
  | nil => intro k; rfl
  | cons a l ih =>
    intro k
    cases k with
    | zero => rfl
    | succ k => simp only [List.map_cons, List.eraseIdx_cons_succ]; rw [ih]
theorem OL_skip (M : Nat → Nat → Int) {N r : Nat} (h : r ≤ N) : (OL M (N + 1)).eraseIdx r = OL (fun i => M (skp r i)) N := by
  unfold OL
  rw [erase_map, range_skip, if_pos h, List.map_map]
  rfl
theorem minor_FF (M : Nat → Nat → Int) {N r c : Nat} (hr : r ≤ N) (hc : c ≤ N) : FF ((OL M (N + 1)).eraseIdx r) ((List.range (N + 1)).eraseIdx c) = FF (OL (minM M r c) N) (List.range N) := by
  rw [OL_skip M hr, range_skip, if_pos hc, FF_map]
  congr 1
  unfold OL
  rw [List.map_map]
  rfl
theorem detE_FF : ∀ (N : Nat) (M : Nat → Nat → Int), detE N M = detR M N := by
  intro N
  induction N with
  | zero => intro M; rfl
  | succ N ih =>
    intro M
    unfold detR
    have e1 : OL M (N + 1) = M 0 :: (OL M (N + 1)).eraseIdx 0 := by
      unfold OL
      rw [List.range_succ_eq_map]
      rfl
    rw [e1]
    show _ = TT (M 0) (FF ((OL M (N + 1)).eraseIdx 0)) (List.range (N + 1))
    rw [TT_sum, List.length_range]
    simp only [detE]
    refine sumZ_congr (fun c hc => ?_)
    rw [minor_FF M (Nat.zero_le N) (by omega), ih]
    have e2 : (List.range (N + 1)).getD c 0 = c := by simp [List.getD, hc]
    rw [e2]
    unfold detR
    grind
theorem sgP_mod (i j : Nat) : sgP i * sgP j = 1 - 2 * (((i + j) % 2 : Nat) : Int) := by
  have h : ∀ k, sgP k = 1 - 2 * ((k % 2 : Nat) : Int) := by
    intro k
    induction k with
    | zero => rfl
    | succ k ih => simp only [sgP]; rw [ih]; omega
  rw [h, h]
  rcases Nat.mod_two_eq_zero_or_one i with e1 | e1 <;> rcases Nat.mod_two_eq_zero_or_one j with e2 | e2
  all_goals
    rw [Nat.add_mod, e1, e2]
    decide
theorem adj_E (M : Nat → Nat → Int) {N i j : Nat} (hi : i < N + 1) (hj : j < N + 1) : adj M (N + 1) i j = (1 - 2 * (((i + j) % 2 : Nat) : Int)) * detE N (minM M j i) := by
  unfold adj
  rw [minor_FF M (by omega) (by omega), sgP_mod, detE_FF]
  rfl
end Go.Proofs.Ytlnpipkhofhlnaa
