/-
  Outlines that are moved, turned by a quarter, mirrored or scaled: what becomes of the distances. No memory here.
-/
import Derived.Test.YtfmcjbddbomohaaMo
import Derived.Test.YtfmcjbddbomohaaBk
namespace Go.Proofs.Ytfmcjbddbomohaa

theorem min_mul {a b c : Int} (hc : 0 ≤ c) : min (a * c) (b * c) = min a b * c := by
  rcases Int.le_total a b with h | h
  · rw [Int.min_eq_left h, Int.min_eq_left (Int.mul_le_mul_of_nonneg_right h hc)]
  · rw [Int.min_eq_right h, Int.min_eq_right (Int.mul_le_mul_of_nonneg_right h hc)]
theorem max_mul {a b c : Int} (hc : 0 ≤ c) : max (a * c) (b * c) = max a b * c := by
  rcases Int.le_total a b with h | h
  · rw [Int.max_eq_right h, Int.max_eq_right (Int.mul_le_mul_of_nonneg_right h hc)]
  · rw [Int.max_eq_left h, Int.max_eq_left (Int.mul_le_mul_of_nonneg_right h hc)]
theorem near_mul {x y x' y' c : Int} {U V U' V' : Nat → Int} (hc : 0 ≤ c) (h : ∀ j, dist x' y' (U' j) (V' j) = dist x y (U j) (V j) * c) (k : Nat) : nearI x' y' U' V' k = nearI x y U V k * c := by
  induction k with
  | zero => exact h 0
  | succ k ih => simp only [nearI]; rw [ih, h k, min_mul hc]
theorem far_mul {a c : Int} {X Y U V X' Y' U' V' : Nat → Int} {n : Nat} (hc : 0 ≤ c) (h : ∀ i j, dist (X' i) (Y' i) (U' j) (V' j) = dist (X i) (Y i) (U j) (V j) * c) (k : Nat) : farF (a * c) X' Y' U' V' n k = farF a X Y U V n k * c := by
  induction k with
  | zero => rfl
  | succ k ih => simp only [farF]; rw [ih, near_mul hc (h k) n, max_mul hc]
theorem haus_mul {c : Int} {X Y U V X' Y' U' V' : Nat → Int} {m n : Nat} (hc : 0 ≤ c) (h : ∀ i j, dist (X' i) (Y' i) (U' j) (V' j) = dist (X i) (Y i) (U j) (V j) * c) : haus m X Y n U V * c = haus m X' Y' n U' V' := by
  unfold haus
  have e : farF 0 X' Y' U' V' n m = farF 0 X Y U V n m * c := by
    have := far_mul (a := 0) (n := n) hc h m
    rwa [Int.zero_mul] at this
  rw [e, far_mul (X := U) (Y := V) (U := X) (V := Y) hc (fun j i => by rw [dist_comm, h i j, dist_comm])]
theorem best3_mul {L L' : Nat → Nat → Int} {c : Int} {m n i j : Nat} (hc : 0 ≤ c) (hi : i < m) (hj : j < n) (hl : ¬ (i + 1 = m ∧ j + 1 = n)) (h : ∀ p q, p < m → q < n → i ≤ p → j ≤ q → i + j < p + q → L' p q = L p q * c) : best3 m n L' i j = best3 m n L i j * c := by
  unfold best3
  by_cases h1 : j + 1 < n
  · rw [if_pos h1, if_pos h1]
    by_cases h2 : i + 1 < m
    · rw [if_pos h2, if_pos h2, h i (j + 1) hi h1 (by omega) (by omega) (by omega), h (i + 1) j h2 hj (by omega) (by omega) (by omega), h (i + 1) (j + 1) h2 h1 (by omega) (by omega) (by omega), min_mul hc, min_mul hc]
    · rw [if_neg h2, if_neg h2, h i (j + 1) hi h1 (by omega) (by omega) (by omega)]
  · rw [if_neg h1, if_neg h1, h (i + 1) j (by omega) hj (by omega) (by omega) (by omega)]
theorem rst_mul {jn : Int → Int → Int} {c : Int} {F F' : Nat → Nat → Int} {m n : Nat} (hc : 0 ≤ c) (hjn : ∀ a b, jn (a * c) (b * c) = jn a b * c) (h : ∀ i j, F' i j = F i j * c) : ∀ d i j, i < m → j < n → (m - 1 - i) + (n - 1 - j) = d → rst jn F' m n i j = rst jn F m n i j * c := by
  intro d
  induction d using Nat.strongRecOn with
  | ind d ih =>
    intro i j hi hj hd
    rw [rst_eq hi hj, rst_eq hi hj]
    by_cases hl : i + 1 = m ∧ j + 1 = n
    · rw [if_pos hl, if_pos hl, h]
    · rw [if_neg hl, if_neg hl, h, best3_mul hc hi hj hl (fun p q hp hq h1 h2 h3 => ih ((m - 1 - p) + (n - 1 - q)) (by omega) p q hp hq rfl), hjn]
theorem fre_mul {c : Int} {X Y U V X' Y' U' V' : Nat → Int} {m n : Nat} (hm : 1 ≤ m) (hn : 1 ≤ n) (hc : 0 ≤ c) (h : ∀ i j, dist (X' i) (Y' i) (U' j) (V' j) = dist (X i) (Y i) (U j) (V j) * c) : fre m X Y n U V * c = fre m X' Y' n U' V' :=
  (rst_mul (jn := max) hc (fun _ _ => max_mul hc) (fun i j => h i j) _ 0 0 (by omega) (by omega) rfl).symm
theorem sum_mul {c : Int} {X Y U V X' Y' U' V' : Nat → Int} {m n : Nat} (hm : 1 ≤ m) (hn : 1 ≤ n) (hc : 0 ≤ c) (h : ∀ i j, dist (X' i) (Y' i) (U' j) (V' j) = dist (X i) (Y i) (U j) (V j) * c) : rstS X Y U V m n 0 0 * c = rstS X' Y' U' V' m n 0 0 :=
  (rst_mul (jn := addI) hc (fun a b => by unfold addI; rw [Int.add_mul]) (fun i j => h i j) _ 0 0 (by omega) (by omega) rfl).symm
theorem neg_sq (a : Int) : -a * -a = a * a := Int.neg_mul_neg a a
theorem mov_dist {how : Nat} (hh : how < 3) (z0 z1 k : Int) (X Y U V : Nat → Int) (i j : Nat) : dist (movX how z0 k X Y i) (movY how z1 k X Y i) (movX how z0 k U V j) (movY how z1 k U V j) = dist (X i) (Y i) (U j) (V j) * 1 := by
  rw [Int.mul_one]
  have h : how = 0 ∨ how = 1 ∨ how = 2 := by omega
  rcases h with rfl | rfl | rfl
  · show (X i + z0 - (U j + z0)) * (X i + z0 - (U j + z0)) + (Y i + z1 - (V j + z1)) * (Y i + z1 - (V j + z1)) = _
    rw [show X i + z0 - (U j + z0) = X i - U j by omega, show Y i + z1 - (V j + z1) = Y i - V j by omega]; rfl
  · show (-Y i - -V j) * (-Y i - -V j) + (X i - U j) * (X i - U j) = _
    rw [show -Y i - -V j = -(Y i - V j) by omega, neg_sq, Int.add_comm]; rfl
  · show (-X i - -U j) * (-X i - -U j) + (Y i - V j) * (Y i - V j) = _
    rw [show -X i - -U j = -(X i - U j) by omega, neg_sq]; rfl
theorem mov_dist3 (z0 z1 k : Int) (X Y U V : Nat → Int) (i j : Nat) : dist (movX 3 z0 k X Y i) (movY 3 z1 k X Y i) (movX 3 z0 k U V j) (movY 3 z1 k U V j) = dist (X i) (Y i) (U j) (V j) * (k * k) := by
  show (k * X i - k * U j) * (k * X i - k * U j) + (k * Y i - k * V j) * (k * Y i - k * V j) = ((X i - U j) * (X i - U j) + (Y i - V j) * (Y i - V j)) * (k * k)
  rw [← Int.mul_sub, ← Int.mul_sub, Int.add_mul]
  have e : ∀ a : Int, k * a * (k * a) = a * a * (k * k) := fun a => by
    ac_rfl
  rw [e, e]
theorem mov_in {how n : Nat} {z0 z1 k : Int} {X Y : Nat → Int} (hh : how ≤ 3) (hz0 : -128 ≤ z0 ∧ z0 ≤ 127) (hz1 : -128 ≤ z1 ∧ z1 ≤ 127) (hk : 1 ≤ k ∧ k ≤ 9) (hR : ∀ i, (-100 ≤ X i ∧ X i ≤ 100) ∧ (-100 ≤ Y i ∧ Y i ≤ 100)) : InR n (movX how z0 k X Y) (movY how z1 k X Y) := by
  intro i _
  have h := hR i
  have h1 := mul_bd hk h.1
  have h2 := mul_bd hk h.2
  unfold pl movX movY
  have e : how = 0 ∨ how = 1 ∨ how = 2 ∨ how = 3 := by omega
  rcases e with rfl | rfl | rfl | rfl
  · simp; omega
  · simp; omega
  · simp; omega
  · simp; omega
end Go.Proofs.Ytfmcjbddbomohaa
