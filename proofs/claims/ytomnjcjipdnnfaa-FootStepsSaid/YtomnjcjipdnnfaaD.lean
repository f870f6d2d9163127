/-
  Walks along two outlines: the least that the distances from a pair on come to. No memory here.
-/
import Derived.Test.YtomnjcjipdnnfaaA
namespace Go.Proofs.Ytomnjcjipdnnfaa

/-- the least value of the pairs after one -/
def best3 (m n : Nat) (L : Nat → Nat → Int) (i j : Nat) : Int :=
  if j + 1 < n then (if i + 1 < m then min (min (L i (j + 1)) (L (i + 1) j)) (L (i + 1) (j + 1)) else L i (j + 1)) else L (i + 1) j
def rstG (jn : Int → Int → Int) (F : Nat → Nat → Int) (m n : Nat) : Nat → Nat → Nat → Int
  | 0, _, _ => 0
  | g + 1, i, j => if i + 1 = m ∧ j + 1 = n then F i j else jn (F i j) (best3 m n (rstG jn F m n g) i j)
def rst (jn : Int → Int → Int) (F : Nat → Nat → Int) (m n i j : Nat) : Int := rstG jn F m n (m + n) i j
theorem best3_congr {m n i j : Nat} {L L' : Nat → Nat → Int} (hi : i < m) (hj : j < n) (hl : ¬ (i + 1 = m ∧ j + 1 = n)) (h : ∀ p q, p < m → q < n → i ≤ p → j ≤ q → i + j < p + q → L p q = L' p q) : best3 m n L i j = best3 m n L' i j := by
  unfold best3
  by_cases h1 : j + 1 < n
  · rw [if_pos h1, if_pos h1]
    by_cases h2 : i + 1 < m
    · rw [if_pos h2, if_pos h2, h i (j + 1) hi h1 (by omega) (by omega) (by omega), h (i + 1) j h2 hj (by omega) (by omega) (by omega), h (i + 1) (j + 1) h2 h1 (by omega) (by omega) (by omega)]
    · rw [if_neg h2, if_neg h2, h i (j + 1) hi h1 (by omega) (by omega) (by omega)]
  · rw [if_neg h1, if_neg h1, h (i + 1) j (by omega) hj (by omega) (by omega) (by omega)]
theorem rstG_more {jn : Int → Int → Int} {F : Nat → Nat → Int} {m n : Nat} (g : Nat) : ∀ i j, i < m → j < n → (m - 1 - i) + (n - 1 - j) + 1 ≤ g → rstG jn F m n g i j = rstG jn F m n (g + 1) i j := by
  induction g with
  | zero => intro i j _ _ h; omega
  | succ g ih =>
    intro i j hi hj h
    simp only [rstG]
    by_cases hl : i + 1 = m ∧ j + 1 = n
    · rw [if_pos hl, if_pos hl]
    · rw [if_neg hl, if_neg hl]
      rw [best3_congr hi hj hl (fun p q hp hq h1 h2 h3 => ih p q hp hq (by omega))]
      rfl
theorem rst_eq {jn : Int → Int → Int} {F : Nat → Nat → Int} {m n i j : Nat} (hi : i < m) (hj : j < n) : rst jn F m n i j = if i + 1 = m ∧ j + 1 = n then F i j else jn (F i j) (best3 m n (rst jn F m n) i j) := by
  show rstG jn F m n (m + n) i j = if i + 1 = m ∧ j + 1 = n then F i j else jn (F i j) (best3 m n (fun p q => rstG jn F m n (m + n) p q) i j)
  obtain ⟨g, hg⟩ : ∃ g, m + n = g + 1 := ⟨m + n - 1, by omega⟩
  rw [hg, show rstG jn F m n (g + 1) i j = if i + 1 = m ∧ j + 1 = n then F i j else jn (F i j) (best3 m n (rstG jn F m n g) i j) from rfl]
  by_cases hl : i + 1 = m ∧ j + 1 = n
  · rw [if_pos hl, if_pos hl]
  · rw [if_neg hl, if_neg hl]
    rw [best3_congr hi hj hl (fun p q hp hq h1 h2 h3 => rstG_more g p q hp hq (by omega))]
/-- whatever holds of the distances and is kept by the function holds of all the values -/
theorem rst_ind {jn : Int → Int → Int} {F : Nat → Nat → Int} {m n : Nat} (P : Int → Prop) (hF : ∀ i j, i < m → j < n → P (F i j)) (hmin : ∀ a b, P a → P b → P (min a b)) (hj : ∀ i j b, i < m → j < n → P b → P (jn (F i j) b)) :
    ∀ d i j, i < m → j < n → (m - 1 - i) + (n - 1 - j) = d → P (rst jn F m n i j) := by
  intro d
  induction d using Nat.strongRecOn with
  | ind d ih =>
    intro i j hi hjn hd
    rw [rst_eq hi hjn]
    by_cases hl : i + 1 = m ∧ j + 1 = n
    · rw [if_pos hl]; exact hF i j hi hjn
    · rw [if_neg hl]
      refine hj i j _ hi hjn ?_
      unfold best3
      by_cases h1 : j + 1 < n
      · rw [if_pos h1]
        by_cases h2 : i + 1 < m
        · rw [if_pos h2]
          exact hmin _ _ (hmin _ _ (ih ((m - 1 - i) + (n - 1 - (j + 1))) (by omega) i (j + 1) hi h1 rfl) (ih ((m - 1 - (i + 1)) + (n - 1 - j)) (by omega) (i + 1) j h2 hjn rfl)) (ih ((m - 1 - (i + 1)) + (n - 1 - (j + 1))) (by omega) (i + 1) (j + 1) h2 h1 rfl)
        · rw [if_neg h2]; exact ih ((m - 1 - i) + (n - 1 - (j + 1))) (by omega) i (j + 1) hi h1 rfl
      · rw [if_neg h1]; exact ih ((m - 1 - (i + 1)) + (n - 1 - j)) (by omega) (i + 1) j (by omega) hjn rfl
theorem rst_max_bd {F : Nat → Nat → Int} {m n i j : Nat} {B : Int} (hF : ∀ i j, i < m → j < n → 0 ≤ F i j ∧ F i j ≤ B) (hi : i < m) (hj : j < n) : 0 ≤ rst max F m n i j ∧ rst max F m n i j ≤ B :=
  rst_ind (fun x => 0 ≤ x ∧ x ≤ B) hF (fun a b h1 h2 => by omega) (fun i j b h1 h2 h3 => by have := hF i j h1 h2; omega) _ i j hi hj rfl
/-- the pairs that may follow one -/
def cand (i j k : Nat) : Nat × Nat := if k = 0 then (i, j + 1) else if k = 1 then (i + 1, j) else (i + 1, j + 1)
/-- the better one of the best so far (0, 0: none) and another pair -/
def bstep (m n : Nat) (L : Nat → Nat → Int) (b p : Nat × Nat) : Nat × Nat := if p.1 < m ∧ p.2 < n ∧ (b = (0, 0) ∨ L p.1 p.2 < L b.1 b.2) then p else b
def bsteps (m n : Nat) (L : Nat → Nat → Int) (i j : Nat) : Nat → Nat × Nat
  | 0 => (0, 0)
  | k + 1 => bstep m n L (bsteps m n L i j k) (cand i j k)
def nxt (m n : Nat) (L : Nat → Nat → Int) (i j : Nat) : Nat × Nat := bsteps m n L i j 3
/-- none yet, or one of the pairs -/
theorem bsteps_in {m n : Nat} {L : Nat → Nat → Int} {i j : Nat} (k : Nat) : bsteps m n L i j k = (0, 0) ∨ ((bsteps m n L i j k).1 < m ∧ (bsteps m n L i j k).2 < n ∧ i ≤ (bsteps m n L i j k).1 ∧ j ≤ (bsteps m n L i j k).2 ∧ i + j < (bsteps m n L i j k).1 + (bsteps m n L i j k).2 ∧ (bsteps m n L i j k).1 ≤ i + 1 ∧ (bsteps m n L i j k).2 ≤ j + 1) := by
  induction k with
  | zero => exact Or.inl rfl
  | succ k ih =>
    simp only [bsteps]
    unfold bstep
    by_cases h : (cand i j k).1 < m ∧ (cand i j k).2 < n ∧ (bsteps m n L i j k = (0, 0) ∨ L (cand i j k).1 (cand i j k).2 < L (bsteps m n L i j k).1 (bsteps m n L i j k).2)
    · rw [if_pos h]
      refine Or.inr ⟨h.1, h.2.1, ?_⟩
      unfold cand
      by_cases e0 : k = 0
      · rw [if_pos e0]; simp
      · rw [if_neg e0]
        by_cases e1 : k = 1
        · rw [if_pos e1]; simp
        · rw [if_neg e1]; simp; omega
    · rw [if_neg h]; exact ih
theorem cand0 (i j : Nat) : cand i j 0 = (i, j + 1) := rfl
theorem cand1 (i j : Nat) : cand i j 1 = (i + 1, j) := rfl
theorem cand2 (i j : Nat) : cand i j 2 = (i + 1, j + 1) := rfl
/-- the pair that comes next: it is one, and it has the least value -/
theorem nxt_spec {m n : Nat} {L : Nat → Nat → Int} {i j : Nat} (hi : i < m) (hj : j < n) (hl : ¬ (i + 1 = m ∧ j + 1 = n)) :
    (nxt m n L i j).1 < m ∧ (nxt m n L i j).2 < n ∧ i ≤ (nxt m n L i j).1 ∧ j ≤ (nxt m n L i j).2 ∧ i + j < (nxt m n L i j).1 + (nxt m n L i j).2 ∧ (nxt m n L i j).1 ≤ i + 1 ∧ (nxt m n L i j).2 ≤ j + 1 ∧ L (nxt m n L i j).1 (nxt m n L i j).2 = best3 m n L i j := by
  have hc : ∀ p : Nat × Nat, (p = (0, 0)) ↔ (p.1 = 0 ∧ p.2 = 0) := fun p => by cases p; simp
  by_cases h1 : j + 1 < n
  · by_cases h2 : i + 1 < m
    · have e1 : bsteps m n L i j 1 = (i, j + 1) := by
        simp only [bsteps, bstep, cand0]
        rw [if_pos ⟨hi, h1, by simp⟩]
      have e2 : bsteps m n L i j 2 = if L (i + 1) j < L i (j + 1) then (i + 1, j) else (i, j + 1) := by
        show bstep m n L (bsteps m n L i j 1) (cand i j 1) = _
        rw [e1, cand1]
        unfold bstep
        by_cases h : L (i + 1) j < L i (j + 1)
        · rw [if_pos h, if_pos ⟨h2, hj, Or.inr h⟩]
        · rw [if_neg h, if_neg (fun h' => h'.2.2.elim (fun h0 => by simp at h0) h)]
      have e3 : nxt m n L i j = bstep m n L (bsteps m n L i j 2) (cand i j 2) := rfl
      rw [e3, e2, cand2]
      unfold best3 bstep
      rw [if_pos h1, if_pos h2]
      by_cases h : L (i + 1) j < L i (j + 1)
      · rw [if_pos h]
        by_cases h' : L (i + 1) (j + 1) < L (i + 1) j
        · rw [if_pos ⟨h2, h1, Or.inr h'⟩]; dsimp only; refine ⟨h2, h1, by omega, by omega, by omega, by omega, by omega, by omega⟩
        · rw [if_neg (fun h'' => h''.2.2.elim (fun h0 => by simp at h0) h')]; dsimp only; refine ⟨h2, hj, by omega, by omega, by omega, by omega, by omega, by omega⟩
      · rw [if_neg h]
        by_cases h' : L (i + 1) (j + 1) < L i (j + 1)
        · rw [if_pos ⟨h2, h1, Or.inr h'⟩]; dsimp only; refine ⟨h2, h1, by omega, by omega, by omega, by omega, by omega, by omega⟩
        · rw [if_neg (fun h'' => h''.2.2.elim (fun h0 => by simp at h0) h')]; dsimp only; refine ⟨hi, h1, by omega, by omega, by omega, by omega, by omega, by omega⟩
    · have e1 : bsteps m n L i j 1 = (i, j + 1) := by
        simp only [bsteps, bstep, cand0]
        rw [if_pos ⟨hi, h1, by simp⟩]
      have e2 : bsteps m n L i j 2 = (i, j + 1) := by
        show bstep m n L (bsteps m n L i j 1) (cand i j 1) = _
        rw [e1, cand1]; unfold bstep; rw [if_neg (fun h => h2 h.1)]
      have e3 : nxt m n L i j = (i, j + 1) := by
        show bstep m n L (bsteps m n L i j 2) (cand i j 2) = _
        rw [e2, cand2]; unfold bstep; rw [if_neg (fun h => h2 h.1)]
      rw [e3]
      unfold best3
      rw [if_pos h1, if_neg h2]
      exact ⟨hi, h1, by simp, by simp, by simp <;> omega, by simp, by simp, rfl⟩
  · have h2 : i + 1 < m := by omega
    have e1 : bsteps m n L i j 1 = (0, 0) := by
      simp only [bsteps, bstep, cand0]
      rw [if_neg (fun h => h1 h.2.1)]
    have e2 : bsteps m n L i j 2 = (i + 1, j) := by
      show bstep m n L (bsteps m n L i j 1) (cand i j 1) = _
      rw [e1, cand1]; unfold bstep; rw [if_pos ⟨h2, hj, Or.inl rfl⟩]
    have e3 : nxt m n L i j = (i + 1, j) := by
      show bstep m n L (bsteps m n L i j 2) (cand i j 2) = _
      rw [e2, cand2]; unfold bstep; rw [if_neg (fun h => h1 h.2.1)]
    rw [e3]
    unfold best3
    rw [if_neg h1]
    exact ⟨h2, hj, by simp, by simp, by simp <;> omega, by simp, by simp, rfl⟩
end Go.Proofs.Ytomnjcjipdnnfaa
