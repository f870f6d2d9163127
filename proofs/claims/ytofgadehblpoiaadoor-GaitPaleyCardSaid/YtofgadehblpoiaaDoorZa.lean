/-
  The transform of a list, in plain numbers: twice it is the list times its length; the squares add up; the powers of 2.
-/
import Derived.Test.YtofgadehblpoiaaDoorYa
namespace Go.Proofs.YtofgadehblpoiaaDoor
open Go.RowKit Go.Deep

/-- the transform, of the first m numbers -/
def trP (l : Nat → Int) (i m : Nat) : Int := sumZ (fun j => l j * sg (par i j)) m
def trN (n : Nat) (l : Nat → Int) (i : Nat) : Int := trP l i n
theorem abs_sg {x c : Int} (b : Bool) (h : -c ≤ x ∧ x ≤ c) : -c ≤ x * sg b ∧ x * sg b ≤ c := by
  rcases sg_cases b with e | e <;> rw [e] <;> omega
theorem trP_le {l : Nat → Int} {c : Int} {i m : Nat} (h : ∀ j, j < m → -c ≤ l j ∧ l j ≤ c) : -(c * m) ≤ trP l i m ∧ trP l i m ≤ c * m :=
  sumZ_le fun j hj => abs_sg _ (h j hj)
theorem trP_congr {l l' : Nat → Int} {i m : Nat} (h : ∀ j, j < m → l j = l' j) : trP l i m = trP l' i m :=
  sumZ_congr fun j hj => by (try dsimp only); rw [h j hj]
theorem par_xor {i m : Nat} (j : Nat) (hi : i < 128) (hm : m < 128) : (par i j ^^ par m j) = par (i ^^^ m) j := by
  have hx : i ^^^ m < 128 := Nat.xor_lt_two_pow (n := 7) hi hm
  rw [par_bits j hi, par_bits j hm, par_bits j hx, xor_xor]
  exact xor_congr (fun b => by rw [Nat.testBit_xor]; cases i.testBit b <;> cases m.testBit b <;> cases j.testBit b <;> rfl) 7
theorem orth_tab : ∀ k : Fin 7, ∀ d : Fin 64, d.val < 2 ^ k.val → sumZ (fun j => sg (par d.val j)) (2 ^ k.val) = if d.val = 0 then ((2 ^ k.val : Nat) : Int) else 0 := by decide +kernel
theorem xor_zero {i m : Nat} (h : i ^^^ m = 0) : i = m := by
  apply Nat.eq_of_testBit_eq
  intro b
  have h1 : (i ^^^ m).testBit b = false := by rw [h]; exact Nat.zero_testBit b
  rw [Nat.testBit_xor] at h1
  cases e1 : i.testBit b <;> cases e2 : m.testBit b <;> simp [e1, e2] at h1 ⊢
theorem orth {k i m : Nat} (hk : k ≤ 6) (hi : i < 2 ^ k) (hm : m < 2 ^ k) : sumZ (fun j => sg (par m j) * sg (par i j)) (2 ^ k) = if m = i then ((2 ^ k : Nat) : Int) else 0 := by
  have hN : 2 ^ k ≤ 64 := by have := Nat.pow_le_pow_right (n := 2) (by omega) hk; omega
  have hd : m ^^^ i < 2 ^ k := Nat.xor_lt_two_pow hm hi
  have h := orth_tab ⟨k, by omega⟩ ⟨m ^^^ i, by omega⟩ hd
  simp only at h
  rw [sumZ_congr (g := fun j => sg (par (m ^^^ i) j)) (fun j _ => by (try dsimp only); rw [sg_mul, par_xor j (by omega) (by omega)]), h]
  by_cases e : m = i
  · subst e; rw [Nat.xor_self, if_pos rfl, if_pos rfl]
  · rw [if_neg e, if_neg (fun h0 => e (xor_zero h0))]
theorem sumZ_pick (f : Nat → Int) (n i : Nat) (hi : i < n) : sumZ (fun m => if m = i then f m else 0) n = f i := by
  induction n with
  | zero => omega
  | succ n ih =>
    simp only [sumZ]
    by_cases e : n = i
    · subst e
      rw [if_pos rfl, sumZ_congr (g := fun _ => 0) (fun m hm => by (try dsimp only); rw [if_neg (by omega)]), sumZ_const]
      omega
    · rw [if_neg e, ih (by omega)]
      omega
theorem sumZ_mulr (c : Int) (f : Nat → Int) (n : Nat) : sumZ (fun i => f i * c) n = sumZ f n * c := by
  rw [Int.mul_comm, ← sumZ_mul]
  exact sumZ_congr fun i _ => Int.mul_comm _ _
/-- the transform of the transform -/
theorem tr_tr {k i : Nat} (l : Nat → Int) (hk : k ≤ 6) (hi : i < 2 ^ k) : trN (2 ^ k) (trN (2 ^ k) l) i = l i * ((2 ^ k : Nat) : Int) := by
  unfold trN trP
  rw [sumZ_congr (g := fun j => sumZ (fun m => l m * (sg (par m j) * sg (par i j))) (2 ^ k)) (fun j _ => by
    (try dsimp only)
    rw [← sumZ_mulr]
    exact sumZ_congr fun m _ => by (try dsimp only); rw [par_comm j m, Int.mul_assoc])]
  rw [sumZ_swap]
  rw [sumZ_congr (g := fun m => if m = i then l m * ((2 ^ k : Nat) : Int) else 0) (fun m hm => by
    (try dsimp only)
    rw [sumZ_mul, orth hk hi hm]
    by_cases e : m = i
    · rw [if_pos e, if_pos e]
    · rw [if_neg e, if_neg e, Int.mul_zero])]
  exact sumZ_pick (fun m => l m * ((2 ^ k : Nat) : Int)) _ _ hi
/-- the squares -/
theorem tr_squares {k : Nat} (l : Nat → Int) (hk : k ≤ 6) : sumZ (fun i => trN (2 ^ k) l i * trN (2 ^ k) l i) (2 ^ k) = sumZ (fun i => l i * l i) (2 ^ k) * ((2 ^ k : Nat) : Int) := by
  rw [sumZ_congr (g := fun i => sumZ (fun j => l j * (trN (2 ^ k) l i * sg (par j i))) (2 ^ k)) (fun i _ => by
    show trN (2 ^ k) l i * sumZ (fun j => l j * sg (par i j)) (2 ^ k) = _
    rw [← sumZ_mul]
    exact sumZ_congr fun j _ => by
      (try dsimp only)
      rw [par_comm i j]
      generalize trN (2 ^ k) l i = t
      generalize sg (par j i) = g
      rw [Int.mul_left_comm])]
  rw [sumZ_swap, ← sumZ_mulr]
  exact sumZ_congr fun j hj => by
    (try dsimp only)
    rw [sumZ_mul, show sumZ (fun i => trN (2 ^ k) l i * sg (par j i)) (2 ^ k) = trN (2 ^ k) (trN (2 ^ k) l) j from rfl, tr_tr l hk hj, Int.mul_assoc]
/-- k, if n is 2^k; -1 otherwise -/
def pwr (n : Nat) : Int := if n = 1 then 0 else if n = 2 then 1 else if n = 4 then 2 else if n = 8 then 3 else if n = 16 then 4 else if n = 32 then 5 else if n = 64 then 6 else -1
theorem pwr_tab : ∀ n : Fin 128, (pop n.val == 1) = decide (0 ≤ pwr n.val) ∧ (0 ≤ pwr n.val → n.val = 2 ^ (pwr n.val).toNat ∧ pwr n.val ≤ 6) := by decide +kernel
theorem pwr_pow : ∀ k : Fin 7, pwr (2 ^ k.val) = (k.val : Int) := by decide +kernel
theorem pwr_none {n : Nat} (h : ∀ j, j < 20 → n ≠ 2 ^ j) : pwr n = -1 := by
  have h0 := h 0 (by omega)
  have h1 := h 1 (by omega)
  have h2 := h 2 (by omega)
  have h3 := h 3 (by omega)
  have h4 := h 4 (by omega)
  have h5 := h 5 (by omega)
  have h6 := h 6 (by omega)
  unfold pwr
  rw [if_neg h0, if_neg h1, if_neg h2, if_neg h3, if_neg h4, if_neg h5, if_neg h6]
end Go.Proofs.YtofgadehblpoiaaDoor
