/-
  HerdTuran's numbers: count, the herd of r parts.
-/
import Derived.Test.YtlnlddnjalfamaaGreatDoorKt
import Derived.Test.YtlnlddnjalfamaaGreatDoorJf
import Derived.Test.YtlnlddnjalfamaaGreatDoorJa
import Derived.Test.YtlnlddnjalfamaaGreatDoorJd
namespace Go.Proofs.YtlnlddnjalfamaaGreatDoor
open Go.RowKit Go.Deep

/-- the degrees of the first i horses -/
def sumD (F : Nat → Nat → Bool) (n : Nat) (i : Nat) : Nat := sumN (fun i => cnt (F i) n) i
theorem sumD_le (F : Nat → Nat → Bool) (n i : Nat) : sumD F n i ≤ n * i := sumN_le _ _ _ fun _ _ => cnt_le _ _
theorem e2_all (F : Nat → Nat → Bool) (n : Nat) : e2S F (fun _ => true) n = sumD F n n := by
  unfold e2S sumD
  refine sumN_congr fun i _ => ?_
  rw [← sum_one]
  rfl
theorem best_sub {H : Nat → Nat} {n : Nat} (hn : n ≤ 9) : (horsesL (best H n) 9).length = size16 (best H n) := by
  have h := (best_spec H (n := n) (by omega)).1.1
  rw [horsesL_len]
  unfold size16
  have e : ∀ k, cnt (fun i => (best H n).testBit i) (9 + k) = cnt (fun i => (best H n).testBit i) 9 := fun k => by
    induction k with
    | zero => rfl
    | succ k ih =>
      have hf : (best H n).testBit (9 + k) = false := by
        cases e : (best H n).testBit (9 + k) with
        | false => rfl
        | true => have := h _ e; omega
      show cnt _ (9 + k) + _ = _
      rw [ih]
      simp [hf]
  exact (e 7).symm
theorem best_size {H : Nat → Nat} {n : Nat} (hn : n ≤ 9) (h1 : 1 ≤ n) : 1 ≤ size16 (best H n) ∧ size16 (best H n) ≤ n := by
  have hs := best_spec H (n := n) (by omega)
  constructor
  · have h := hs.2 (2 ^ 0) (fun j hj => by
      rw [pow_bit] at hj
      have : 0 = j := by simpa using hj
      omega) (fun i j hij hi hj => by
      rw [pow_bit] at hi hj
      have : 0 = i := by simpa using hi
      have : 0 = j := by simpa using hj
      omega)
    rw [size_pow 0 (by omega)] at h
    omega
  · have h := hs.1.1
    unfold size16
    have e : ∀ k, n ≤ k → cnt (fun i => (best H n).testBit i) k = cnt (fun i => (best H n).testBit i) n := fun k hk => by
      obtain ⟨m, rfl⟩ : ∃ m, k = n + m := ⟨k - n, by omega⟩
      clear hk
      induction m with
      | zero => rfl
      | succ m ih =>
        have hf : (best H n).testBit (n + m) = false := by
          cases e : (best H n).testBit (n + m) with
          | false => rfl
          | true => have := h _ e; omega
        show cnt _ (n + m) + _ = _
        rw [ih]
        simp [hf]
    rw [e 16 (by omega)]
    exact cnt_le _ _
/-- Turan's bound for the greatest group -/
theorem turan_most {H : Nat → Nat} {F : Nat → Nat → Bool} {n : Nat} (hs : Sym F n) (hn : n ≤ 9) (h1 : 1 ≤ n) (hF : ∀ i j, i < n → j < n → (H i).testBit j = F i j) : ((sumD F n n / 2 : Nat) : Int) ≤ mostN n (size16 (best H n)) := by
  have hb := best_size (H := H) hn h1
  have h := turan_bound F n hs hn (size16 (best H n)) (by omega) (fun _ => true) (fun t ht hc => by
    have := (best_spec H (n := n) (by omega)).2 t (fun j hj => (ht j hj).1) (fun i j hij hi hj => by
      rw [hF i j (ht i hi).1 (ht j hj).1]
      exact hc i j hij hi hj)
    omega)
  rw [e2_all] at h
  have hc : cnt (fun _ => true) n = n := by
    have : ∀ k, cnt (fun _ => true) k = k := fun k => by
      induction k with
      | zero => rfl
      | succ k ih => simp [cnt, ih]
    exact this n
  rw [hc] at h
  unfold M2 at h
  unfold mostN
  have hz : sqN n (size16 (best H n)) (size16 (best H n)) ≤ n * n := by
    have a1 := (most_ins (n := n) (r := size16 (best H n)) (by omega)).2
    have a2 := insN_two n (size16 (best H n)) (size16 (best H n))
    have a3 := fstN_end (n := n) (r := size16 (best H n)) (by omega)
    have a4 := triN_two n
    omega
  generalize size16 (best H n) = s at *
  have e : ((n : Int) * n - (sqN n s s : Nat)) = ((n * n : Nat) : Int) - (sqN n s s : Nat) := by rw [Int.natCast_mul]
  rw [e]
  generalize n * n = q at *
  generalize sqN n s s = z at *
  have e2 : (q : Int) - (z : Int) = ((q - z : Nat) : Int) := by omega
  rw [e2, show Int.tdiv ((q - z : Nat) : Int) 2 = (((q - z) / 2 : Nat) : Int) from (Int.ofNat_tdiv (q - z) 2).symm]
  omega
end Go.Proofs.YtlnlddnjalfamaaGreatDoor
