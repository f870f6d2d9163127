/-
  Decimal digits in groups of four, in plain numbers.
-/
import Derived.Test.YthigeafojekclaaDoorUg
namespace Go.Proofs.YthigeafojekclaaDoor.Num
open Go.RowKit Go.Deep

/-- the value of k digits from a on -/
def dv (f : Nat → Int) (a : Nat) : Nat → Int
  | 0 => 0
  | k + 1 => dv f a k * 10 + f (a + k)
theorem dv_add (f : Nat → Int) (a k m : Nat) : dv f a (k + m) = dv f a k * 10 ^ m + dv f (a + k) m := by
  induction m with
  | zero => simp [dv]
  | succ m ih =>
    rw [show k + (m + 1) = k + m + 1 by omega]
    simp only [dv]
    rw [ih, show a + (k + m) = a + k + m by omega, Int.pow_succ]
    grind
theorem dv_bd {f : Nat → Int} {a k : Nat} (h : ∀ i, a ≤ i → i < a + k → 0 ≤ f i ∧ f i ≤ 9) : 0 ≤ dv f a k ∧ dv f a k < 10 ^ k := by
  induction k with
  | zero => simp [dv]
  | succ k ih =>
    have h1 := ih (fun i a b => h i a (by omega))
    have h2 := h (a + k) (by omega) (by omega)
    simp only [dv]
    rw [Int.pow_succ]
    omega
theorem dv_small {f : Nat → Int} {a k : Nat} (hk : k ≤ 4) (h : ∀ i, a ≤ i → i < a + k → 0 ≤ f i ∧ f i ≤ 9) : 0 ≤ dv f a k ∧ dv f a k < 10000 := by
  have h1 := dv_bd h
  have h2 : (10 : Int) ^ k ≤ 10 ^ 4 := by have : k = 0 ∨ k = 1 ∨ k = 2 ∨ k = 3 ∨ k = 4 := by omega
                                          rcases this with rfl | rfl | rfl | rfl | rfl <;> decide
  have h3 : (10 : Int) ^ 4 = 10000 := by decide
  omega
/-- the group i of n digits, four by four from the last one on -/
def ck (f : Nat → Int) (n i : Nat) : Int := dv f (n - 4 * (i + 1)) (n - 4 * i - (n - 4 * (i + 1)))
theorem pow_four (j : Nat) : (10 : Int) ^ (4 * j) = 10000 ^ j := by
  induction j with
  | zero => rfl
  | succ j ih => rw [show 4 * (j + 1) = 4 * j + 1 + 1 + 1 + 1 by omega, Int.pow_succ, Int.pow_succ, Int.pow_succ, Int.pow_succ, ih, Int.pow_succ]; omega
theorem ck_all (f : Nat → Int) (n : Nat) : ∀ j, (∀ i, i < j → 4 * i < n) → valZ (ck f n) j = dv f (n - 4 * j) (n - (n - 4 * j)) := by
  intro j
  induction j with
  | zero => intro _; simp [valZ, dv]
  | succ j ih =>
    intro h
    have h1 := ih (fun i hi => h i (by omega))
    have h2 := h j (by omega)
    simp only [valZ]
    rw [h1, ← pow_four]
    unfold ck
    rw [show n - (n - 4 * j) = 4 * j by omega]
    have h3 := dv_add f (n - 4 * (j + 1)) (n - 4 * j - (n - 4 * (j + 1))) (4 * j)
    rw [show n - 4 * (j + 1) + (n - 4 * j - (n - 4 * (j + 1))) = n - 4 * j by omega, show n - 4 * j - (n - 4 * (j + 1)) + 4 * j = n - (n - 4 * (j + 1)) by omega] at h3
    rw [h3]
    omega
theorem ck_dig {f : Nat → Int} {n : Nat} (h : ∀ i, i < n → 0 ≤ f i ∧ f i ≤ 9) (j : Nat) : DigZ (ck f n) j := fun i _ => by
  unfold ck
  exact dv_small (by omega) (fun k h1 h2 => h k (by omega))
theorem decV_take (l : List UInt8) : ∀ k, k ≤ l.length → decV (l.take k) = dv (fun i => chr (strL l) i - 48) 0 k := by
  intro k
  induction k with
  | zero => intro _; simp [decV, dv]
  | succ k ih =>
    intro hk
    have h1 := ih (by omega)
    have h2 : chr (strL l) k = (l[k].toNat : Int) := by
      rw [chr_list _ _ (by rw [strL_size]; omega)]
      simp [strL, List.getD_eq_getElem?_getD, List.getElem?_eq_getElem (show k < l.length by omega)]
    rw [List.take_add_one, List.getElem?_eq_getElem (show k < l.length by omega)]
    simp only [Option.toList_some, dv]
    rw [decV_snoc, h1, Nat.zero_add, h2]
theorem decV_dv (l : List UInt8) : decV l = dv (fun i => chr (strL l) i - 48) 0 l.length := by
  have h := decV_take l l.length (Nat.le_refl _)
  rwa [List.take_length] at h
theorem decD_chr {l : List UInt8} (h : DecD l) (i : Nat) (hi : i < l.length) : 48 ≤ chr (strL l) i ∧ chr (strL l) i ≤ 57 := by
  have h2 : chr (strL l) i = (l[i].toNat : Int) := by
    rw [chr_list _ _ (by rw [strL_size]; omega)]
    simp [strL, List.getD_eq_getElem?_getD, List.getElem?_eq_getElem hi]
  have := h l[i] (List.getElem_mem hi)
  rw [h2]
  omega
theorem dec_head {l : List UInt8} (h : l.head?.map (fun b => b.toNat) ≠ some 48) (hd : DecD l) (h0 : 0 < l.length) : chr (strL l) 0 ≠ 48 := by
  cases l with
  | nil => simp at h0
  | cons b t =>
    have h2 : chr (strL (b :: t)) 0 = (b.toNat : Int) := by
      rw [chr_list _ _ (by rw [strL_size]; simp)]
      rfl
    rw [h2]
    simp at h
    omega
end Go.Proofs.YthigeafojekclaaDoor.Num
