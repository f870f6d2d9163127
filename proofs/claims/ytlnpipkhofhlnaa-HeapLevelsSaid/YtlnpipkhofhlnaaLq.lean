/-
  Levels of a list of heaps: how many there are of each level, and the greatest. No memory here.
-/
import Derived.Test.YtlnpipkhofhlnaaAa
namespace Go.Proofs.Ytlnpipkhofhlnaa
open Go.RowKit

def lvR (D : Nat → Nat) (m N : Nat) (x : Nat → Int) : Nat := ((D 0 : Int) - m + sumZ x N).toNat
def lvK (D : Nat → Nat) (m N : Nat) (l : List (Nat → Int)) (i : Nat) : Nat := lvR D m N (l.getD i (fun _ => 0))
/-- how many of the first k have level t -/
def cntK (D : Nat → Nat) (m N : Nat) (l : List (Nat → Int)) (k t : Nat) : Nat := cnt (fun i => decide (lvK D m N l i = t)) k
/-- one more than the greatest level of the first k -/
def topK (D : Nat → Nat) (m N : Nat) (l : List (Nat → Int)) : Nat → Nat
  | 0 => 0
  | k + 1 => max (topK D m N l k) (lvK D m N l k + 1)
theorem cntK_succ (D : Nat → Nat) (m N : Nat) (l : List (Nat → Int)) (k t : Nat) : cntK D m N l (k + 1) t = cntK D m N l k t + if t = lvK D m N l k then 1 else 0 := by
  unfold cntK
  simp only [cnt, decide_eq_true_eq]
  congr 1
  by_cases e : t = lvK D m N l k
  · rw [if_pos e, if_pos e.symm]
  · rw [if_neg e, if_neg (fun h => e h.symm)]
theorem cntK_le (D : Nat → Nat) (m N : Nat) (l : List (Nat → Int)) (k t : Nat) : cntK D m N l k t ≤ k := cnt_le _ _
theorem cntK_top {D : Nat → Nat} {m N : Nat} {l : List (Nat → Int)} {k t : Nat} (h : topK D m N l k ≤ t) : cntK D m N l k t = 0 := by
  induction k with
  | zero => rfl
  | succ k ih =>
    simp only [topK] at h
    rw [cntK_succ, ih (by omega), if_neg (by omega)]
theorem lvK_app {D : Nat → Nat} {m N : Nat} {l : List (Nat → Int)} {x : Nat → Int} {i : Nat} (h : i < l.length) : lvK D m N (l ++ [x]) i = lvK D m N l i := by
  unfold lvK; simp [List.getD, List.getElem?_append_left h]
theorem lvK_last {D : Nat → Nat} {m N : Nat} {l : List (Nat → Int)} {x : Nat → Int} : lvK D m N (l ++ [x]) l.length = lvR D m N x := by
  unfold lvK; simp [List.getD]
theorem cntK_app {D : Nat → Nat} {m N : Nat} {l : List (Nat → Int)} {x : Nat → Int} {t : Nat} : ∀ k, k ≤ l.length → cntK D m N (l ++ [x]) k t = cntK D m N l k t := by
  intro k
  induction k with
  | zero => intro _; rfl
  | succ k ih => intro h; rw [cntK_succ, cntK_succ, ih (by omega), lvK_app (by omega)]
theorem topK_app {D : Nat → Nat} {m N : Nat} {l : List (Nat → Int)} {x : Nat → Int} : ∀ k, k ≤ l.length → topK D m N (l ++ [x]) k = topK D m N l k := by
  intro k
  induction k with
  | zero => intro _; rfl
  | succ k ih => intro h; simp only [topK]; rw [ih (by omega), lvK_app (by omega)]
theorem rec_cnt (J : Nat → Nat → Nat) (D : Nat → Nat) (m N t : Nat) : ∀ k, cntK D m N (recL J D N k) (recL J D N k).length t = sumN (fun j => tally D J m N t (lexV D N j)) k := by
  intro k
  induction k with
  | zero => rfl
  | succ k ih =>
    simp only [sumN]
    rw [← ih]
    cases e : fullB J N (lexV D N k)
    · rw [recL_no e]; unfold tally; rw [e]; simp
    · rw [recL_yes e, List.length_append, List.length_singleton, cntK_succ, cntK_app _ (Nat.le_refl _), lvK_last]
      congr 1
      unfold tally
      rw [e]
      by_cases h : t = lvR D m N (fun i => ((lexV D N k i : Nat) : Int))
      · rw [if_pos h, if_pos ⟨rfl, h.symm⟩]
      · rw [if_neg h, if_neg (fun h2 => h h2.2.symm)]
theorem rec_hist {J : Nat → Nat → Nat} {D : Nat → Nat} {m N t : Nat} (h : ∀ j, j < N → 1 ≤ degT D j) : cntK D m N (recL J D N (lexP D N)) (recL J D N (lexP D N)).length t = hist D J m N (prodN (degT D) N) t := by
  rw [rec_cnt]
  exact both_orders (D := degT D) (n := N) (fun v => tally D J m N t v) h
theorem rec_top_le {J : Nat → Nat → Nat} {D : Nat → Nat} {m N b : Nat} : ∀ k, (∀ j, j < k → fullB J N (lexV D N j) = true → lvR D m N (fun i => ((lexV D N j i : Nat) : Int)) ≤ b) → topK D m N (recL J D N k) (recL J D N k).length ≤ b + 1 := by
  intro k
  induction k with
  | zero => intro _; exact Nat.zero_le _
  | succ k ih =>
    intro h
    have h1 := ih (fun j hj => h j (by omega))
    cases e : fullB J N (lexV D N k)
    · rw [recL_no e]; exact h1
    · rw [recL_yes e, List.length_append, List.length_singleton]
      simp only [topK]
      rw [topK_app _ (Nat.le_refl _), lvK_last]
      have := h k (by omega) e
      omega
theorem rec_top_ge {J : Nat → Nat → Nat} {D : Nat → Nat} {m N j : Nat} (hf : fullB J N (lexV D N j) = true) : ∀ k, j < k → lvR D m N (fun i => ((lexV D N j i : Nat) : Int)) + 1 ≤ topK D m N (recL J D N k) (recL J D N k).length := by
  intro k
  induction k with
  | zero => intro h; omega
  | succ k ih =>
    intro h
    cases e : fullB J N (lexV D N k)
    · have hjk : j ≠ k := fun h2 => by rw [h2, e] at hf; cases hf
      rw [recL_no e]; exact ih (by omega)
    · rw [recL_yes e, List.length_append, List.length_singleton]
      simp only [topK]
      rw [topK_app _ (Nat.le_refl _), lvK_last]
      by_cases hjk : j = k
      · subst hjk; omega
      · have := ih (by omega); omega
theorem sub_div {a b : Nat} (ha : 1 ≤ a) (hb : 1 ≤ b) : (a * b - 1) / a = b - 1 := by
  obtain ⟨b, rfl⟩ : ∃ c, b = c + 1 := ⟨b - 1, by omega⟩
  rw [show a * (b + 1) - 1 = (a - 1) + a * b by rw [Nat.mul_succ]; omega, Nat.add_mul_div_left _ _ (by omega), Nat.div_eq_of_lt (by omega)]
  omega
theorem sub_mod {a b : Nat} (ha : 1 ≤ a) (hb : 1 ≤ b) : (a * b - 1) % a = a - 1 := by
  obtain ⟨b, rfl⟩ : ∃ c, b = c + 1 := ⟨b - 1, by omega⟩
  rw [show a * (b + 1) - 1 = (a - 1) + a * b by rw [Nat.mul_succ]; omega, Nat.add_mul_mod_self_left, Nat.mod_eq_of_lt (by omega)]
theorem vec_top {D : Nat → Nat} {n i : Nat} (h : ∀ i, i < n → 1 ≤ D i) (hi : i < n) : vec n D (prodN D n - 1) i = D i - 1 := by
  unfold vec
  rw [if_pos hi]
  obtain ⟨m, hm⟩ := prodN_dvd1 (D := D) hi
  have hp := prodN_pos (D := D) (n := n) h
  have h0 := prodN_pos (D := D) (n := i) (fun j hj => h j (by omega))
  have hd := h i hi
  have hm1 : 1 ≤ m := by
    rcases Nat.eq_zero_or_pos m with e | e
    · rw [e] at hm; simp at hm; omega
    · exact e
  have h1 : 1 ≤ D i * m := Nat.mul_pos hd hm1
  rw [hm, sub_div h0 h1, sub_mod hd hm1]
theorem lex_top {D : Nat → Nat} {N i : Nat} (h : ∀ j, j < N → 1 ≤ degT D j) (hi : i < N) : lexV D N (lexP D N - 1) i = degT D i - 1 := by
  rw [lexV_at hi]
  unfold lexP
  rw [vec_top (back_pos h) (by omega), back_at hi]
theorem lv_congr {D : Nat → Nat} {m N : Nat} {x y : Nat → Int} (h : ∀ i, i < N → x i = y i) : lvR D m N x = lvR D m N y := by
  unfold lvR; rw [sumZ_congr h]
theorem full_top {N : Nat} {D : Nat → Nat} {J : Nat → Nat → Nat} {p : Nat → Nat} (ok : YardOk (N + 1) D J) (hp : Ranked (N + 1) J p) : fullB J N (lexV D N (lexP D N - 1)) = true := by
  have h1 : ∀ j, j < N → 1 ≤ degT D j := fun j hj => ok.D1 (j + 1) (by omega) (by omega)
  have hn : NF N J (fun i => ((lexV D N (lexP D N - 1) i : Nat) : Int)) := nf_top ok hp (fun i hi => by
    show _ ≤ ((lexV D N (lexP D N - 1) i : Nat) : Int)
    rw [lex_top h1 hi]; have := h1 i hi; unfold degT at *; omega)
  unfold fullB
  rw [nf_burn hn]; simp
theorem rec_top {N m : Nat} {D : Nat → Nat} {J : Nat → Nat → Nat} {p : Nat → Nat} (ok : YardOk (N + 1) D J) (hp : Ranked (N + 1) J p) : topK D m N (recL J D N (lexP D N)) (recL J D N (lexP D N)).length = topL D m N + 1 := by
  have h1 : ∀ j, j < N → 1 ≤ degT D j := fun j hj => ok.D1 (j + 1) (by omega) (by omega)
  have hP : 1 ≤ lexP D N := prodN_pos (back_pos h1)
  have h2 := rec_top_le (J := J) (D := D) (m := m) (N := N) (b := topL D m N) (lexP D N) (fun j hj _ => by
    have := lev_le (D := D) (m := m) (N := N) (v := lexV D N j) (fun i hi => lexV_lt h1 hi)
    show (levI D m N (lexV D N j)).toNat ≤ (levI D m N (fun i => D (i + 1) - 1)).toNat
    omega)
  have h3 := rec_top_ge (m := m) (full_top ok hp) (lexP D N) (by omega)
  have h4 : lvR D m N (fun i => ((lexV D N (lexP D N - 1) i : Nat) : Int)) = topL D m N := by
    unfold topL levI
    exact lv_congr (m := m) (y := fun i => ((D (i + 1) - 1 : Nat) : Int)) (fun i hi => by
      show ((lexV D N (lexP D N - 1) i : Nat) : Int) = _
      rw [lex_top h1 hi]; rfl)
  omega
/-- what each of them is -/
theorem rec_at {J : Nat → Nat → Nat} {D : Nat → Nat} {N k i : Nat} {x : Nat → Int} (h : (recL J D N k)[i]? = some x) : ∃ j, j < k ∧ fullB J N (lexV D N j) = true ∧ x = fun i => ((lexV D N j i : Nat) : Int) := by
  have hm := List.mem_of_getElem? h
  unfold recL at hm
  obtain ⟨j, hj, rfl⟩ := List.mem_map.1 hm
  obtain ⟨h1, h2⟩ := List.mem_filter.1 hj
  exact ⟨j, by simpa using h1, h2, rfl⟩
theorem lvK_at {D : Nat → Nat} {m N i : Nat} {l : List (Nat → Int)} {x : Nat → Int} (h : l[i]? = some x) : lvK D m N l i = lvR D m N x := by
  unfold lvK; rw [List.getD_eq_getElem?_getD, h]; rfl
end Go.Proofs.Ytlnpipkhofhlnaa
