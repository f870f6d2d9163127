/-
  Sets of horses as numbers: their bits. No memory here.
-/
import Derived.Test.YtfbiinjpljmapaaDoorRep
import Derived.WalkKit
namespace Go.Proofs.YtfbiinjpljmapaaDoor
open Go.RowKit Go.Deep

theorem of16 (a : Nat) (h : a < 65536) : (BitVec.ofInt 16 (a : Int)).toNat = a := by
  rw [BitVec.toNat_ofInt]
  omega
theorem wr16 (n : Nat) (h : n < 65536) : IntKind.u16.wrap (n : Int) = (n : Int) := by
  show (n : Int) % 2 ^ 16 = n
  omega
theorem and16 (a b : Nat) (ha : a < 65536) (hb : b < 65536) : bits .and .u16 (a : Int) (b : Int) = ((a &&& b : Nat) : Int) := by
  show IntKind.u16.wrap ((BitVec.ofInt 16 (a : Int) &&& BitVec.ofInt 16 (b : Int)).toNat : Int) = _
  rw [BitVec.toNat_and, of16 a ha, of16 b hb]
  exact wr16 _ (Nat.lt_of_le_of_lt Nat.and_le_left ha)
theorem or16_lt {a b : Nat} (ha : a < 65536) (hb : b < 65536) : a ||| b < 65536 := Nat.or_lt_two_pow (n := 16) ha hb
theorem or16 (a b : Nat) (ha : a < 65536) (hb : b < 65536) : bits .or .u16 (a : Int) (b : Int) = ((a ||| b : Nat) : Int) := by
  show IntKind.u16.wrap ((BitVec.ofInt 16 (a : Int) ||| BitVec.ofInt 16 (b : Int)).toNat : Int) = _
  rw [BitVec.toNat_or, of16 a ha, of16 b hb]
  exact wr16 _ (or16_lt ha hb)
/-- a without b -/
def bsub (a b : Nat) : Nat := a &&& (65535 - b)
theorem bsub_le (a b : Nat) : bsub a b ≤ a := Nat.and_le_left
theorem andNot16 (a b : Nat) (ha : a < 65536) (hb : b < 65536) : bits .andNot .u16 (a : Int) (b : Int) = ((bsub a b : Nat) : Int) := by
  show IntKind.u16.wrap ((BitVec.ofInt 16 (a : Int) &&& ~~~BitVec.ofInt 16 (b : Int)).toNat : Int) = _
  rw [BitVec.toNat_and, BitVec.toNat_not, of16 a ha, of16 b hb]
  exact wr16 _ (Nat.lt_of_le_of_lt Nat.and_le_left ha)
theorem bsub_bit (a b i : Nat) (ha : a < 65536) (hb : b < 65536) : (bsub a b).testBit i = (a.testBit i && !b.testBit i) := by
  unfold bsub
  rw [Nat.testBit_and, show 65535 - b = 2 ^ 16 - (b + 1) by omega, Nat.testBit_two_pow_sub_succ (by omega)]
  by_cases hi : i < 16
  · simp [hi]
  · have h2 : 2 ^ 16 ≤ 2 ^ i := Nat.pow_le_pow_right (by decide) (by omega)
    have h1 : a.testBit i = false := Nat.testBit_lt_two_pow (by omega)
    simp [h1]
/-- the horses below n -/
def allH (n : Nat) : Nat := 2 ^ n - 1
theorem allH_bit (n i : Nat) : (allH n).testBit i = decide (i < n) := Nat.testBit_two_pow_sub_one n i
theorem allH_lt {n : Nat} (h : n ≤ 15) : allH n < 65536 := by
  unfold allH
  have : 2 ^ n ≤ 2 ^ 15 := Nat.pow_le_pow_right (by omega) h
  omega
/-- the horses of s with greater numbers -/
def aft (s i : Nat) : Nat := bsub s (allH (i + 1))
theorem aft_le (s i : Nat) : aft s i ≤ s := bsub_le _ _
theorem aft_bit (s i j : Nat) (hs : s < 65536) (hi : i < 15) : (aft s i).testBit j = (s.testBit j && decide (i < j)) := by
  unfold aft
  rw [bsub_bit _ _ _ hs (allH_lt (by omega)), allH_bit]
  by_cases h : i < j
  · simp [h, show ¬ j < i + 1 by omega]
  · simp [h, show j < i + 1 by omega]
theorem bit_div (s i : Nat) : s.testBit i = (s / 2 ^ i % 2 == 1) := by
  rw [Nat.testBit_eq_decide_div_mod_eq]
  by_cases h : s / 2 ^ i % 2 = 1 <;> simp [h]
theorem and1_16 (s : Nat) (hs : s < 65536) : bits .and .u16 (s : Int) 1 = ((s % 2 : Nat) : Int) := by
  rw [show (1 : Int) = ((1 : Nat) : Int) from rfl, and16 s 1 hs (by omega), Nat.and_one_is_mod]
theorem pow16 {i : Nat} (h : i ≤ 15) : (2 : Nat) ^ i < 65536 := by
  have : 2 ^ i ≤ 2 ^ 15 := Nat.pow_le_pow_right (by omega) h
  omega
/-- how many horses a set has -/
def size16 (s : Nat) : Nat := cnt (fun i => s.testBit i) 16
/-- the horses of a set, rising -/
def horsesL (s k : Nat) : List Nat := (List.range k).filter fun i => s.testBit i
theorem horsesL_succ (s k : Nat) : horsesL s (k + 1) = horsesL s k ++ (if s.testBit k then [k] else []) := by
  unfold horsesL
  rw [List.range_succ, List.filter_append]
  congr 1
  by_cases e : s.testBit k <;> simp [e]
theorem horsesL_len (s k : Nat) : (horsesL s k).length = cnt (fun i => s.testBit i) k := by
  induction k with
  | zero => rfl
  | succ k ih =>
    rw [horsesL_succ, List.length_append, ih]
    simp only [cnt]
    split <;> simp
/-- a group and all that it becomes with horses of nx, in the order in which they are yielded -/
def cliq (H : Nat → Nat) (n : Nat) : Nat → Nat → Nat → List Nat
  | 0, g, _ => [g]
  | f + 1, g, nx => g :: (List.range n).flatMap fun i => if nx.testBit i then cliq H n f (g ||| 2 ^ i) (aft nx i &&& H i) else []
/-- the part of them that begins with horses below k -/
def cliqTo (H : Nat → Nat) (n f g nx k : Nat) : List Nat := (List.range k).flatMap fun i => if nx.testBit i then cliq H n f (g ||| 2 ^ i) (aft nx i &&& H i) else []
theorem cliqTo_succ (H : Nat → Nat) (n f g nx k : Nat) : cliqTo H n f g nx (k + 1) = cliqTo H n f g nx k ++ (if nx.testBit k then cliq H n f (g ||| 2 ^ k) (aft nx k &&& H k) else []) := by
  unfold cliqTo
  rw [List.range_succ, List.flatMap_append]
  simp
theorem cliq_succ (H : Nat → Nat) (n f g nx : Nat) : cliq H n (f + 1) g nx = g :: cliqTo H n f g nx n := rfl
end Go.Proofs.YtfbiinjpljmapaaDoor
