/-
  The reference reads numbers: Parse, Valid.
-/
import Derived.Test.YthigeafojekclaaDoorWb
namespace Go.Proofs.YthigeafojekclaaDoor.Num
open Go.RowKit Go.Deep Go.Shelf

/-- where the first slash is, as far as t places from the end have been looked at -/
def slV (n p t : Nat) : Nat := if n - t ≤ p then p else n
theorem slV_zero {n p : Nat} (h : p ≤ n) : slV n p 0 = n := by unfold slV; split <;> omega
theorem slV_all (n p : Nat) : slV n p n = p := by unfold slV; rw [if_pos (by omega)]
theorem slV_at {n p t : Nat} (h : p + 1 + t = n) : slV n p (t + 1) = p := by unfold slV; rw [if_pos (by omega)]
theorem slV_off {n p t j : Nat} (h : j + 1 + t = n) (hp : j ≠ p) : slV n p (t + 1) = slV n p t := by
  unfold slV
  by_cases e : n - t ≤ p
  · rw [if_pos e, if_pos (by omega)]
  · rw [if_neg e, if_neg (by omega)]
theorem slV_le {n p t : Nat} (h : p ≤ n) : slV n p t ≤ n := by unfold slV; split <;> omega
theorem strL_chr (l : List UInt8) (i : Nat) (h : i < l.length) : chr (strL l) i = (l[i].toNat : Int) := by
  rw [chr_list _ _ (by rw [strL_size]; omega)]
  simp [strL, List.getD_eq_getElem?_getD, List.getElem?_eq_getElem h]
theorem strL_ext (a b : List UInt8) : (strL (a ++ b)).extract 0 a.length = strL a := by
  apply chr_ext
  · rw [size_extract _ _ _ (by rw [strL_size]; simp), strL_size]; omega
  · intro i hi
    rw [size_extract _ _ _ (by rw [strL_size]; simp)] at hi
    rw [chr_extract _ _ _ _ (by rw [strL_size]; simp) hi, Nat.zero_add, strL_chr _ _ (by simp; omega), strL_chr _ _ (by omega), List.getElem_append_left (by omega)]
theorem strL_ext2 (a b : List UInt8) (c : UInt8) : (strL (a ++ c :: b)).extract (a.length + 1) (a.length + 1 + b.length) = strL b := by
  apply chr_ext
  · rw [size_extract _ _ _ (by rw [strL_size]; simp; omega), strL_size]; omega
  · intro i hi
    rw [size_extract _ _ _ (by rw [strL_size]; simp; omega)] at hi
    rw [chr_extract _ _ _ _ (by rw [strL_size]; simp; omega) hi, strL_chr _ _ (by simp; omega), strL_chr _ _ (by omega), List.getElem_append_right (by omega)]
    congr 2
    simp [show a.length + 1 + i - a.length = i + 1 by omega]
/-- what Parse needs to know of a string -/
structure NumS (S : ByteArray) (n p : Nat) : Prop where
  sz : S.size = n
  n0 : 0 < n
  n1 : n ≤ 300
  pn : p ≤ n
  neg : (chr S 0 == 45) = false
  at' : ∀ i, i < n → i = p → (chr S i == 47) = true
  off : ∀ i, i < n → i ≠ p → (chr S i == 47) = false
theorem numS_whole {l : List UInt8} {x : Int} (h : DecL l x) (h0 : 0 < l.length) (h1 : l.length ≤ 100) : NumS (strL l) l.length l.length where
  sz := strL_size l
  n0 := h0
  n1 := by omega
  pn := Nat.le_refl _
  neg := by have := decD_chr h.1 0 h0; simp; omega
  at' := fun i hi e => by omega
  off := fun i hi _ => by have := decD_chr h.1 i hi; simp; omega
theorem numS_frac {l r : List UInt8} {x y : Int} (h : DecL l x) (g : DecL r y) (h0 : 0 < l.length) (h1 : l.length ≤ 100) (g1 : r.length ≤ 100) : NumS (strL (l ++ 47 :: r)) (l.length + 1 + r.length) l.length where
  sz := by rw [strL_size]; simp; omega
  n0 := by omega
  n1 := by omega
  pn := by omega
  neg := by
    have := h.1 l[0] (List.getElem_mem h0)
    rw [strL_chr _ _ (by simp; omega), List.getElem_append_left h0]
    simp; omega
  at' := fun i hi e => by
    subst e
    rw [strL_chr _ _ (by simp), List.getElem_append_right (Nat.le_refl _)]
    simp
  off := fun i hi e => by
    rw [strL_chr _ _ (by simp; omega)]
    rcases Nat.lt_or_ge i l.length with h2 | h2
    · rw [List.getElem_append_left h2]
      have := h.1 l[i] (List.getElem_mem h2)
      simp; omega
    · rw [List.getElem_append_right h2, List.getElem_cons, dif_neg (by omega)]
      have := g.1 r[i - l.length - 1] (List.getElem_mem (by omega))
      simp; omega
def ParsePost (w : World) (x y : Int) (e : Ending) (w' : World) : Prop := ∃ v, e = .returned (.tuple #[v, .bool true]) ∧ QAt w' v x y ∧ Kept w w'
theorem bxz_noint (m : Bool) (a : Option Addr) (l c : Nat) : ∀ i, i < 2 → ∀ (k : IntKind) (x : Int), bx (.bool m) (.slice a l c) i ≠ .int k x := fun i hi k x h => by
  have : i = 0 ∨ i = 1 := by omega
  rcases this with rfl | rfl <;> simp [bx] at h
end Go.Proofs.YthigeafojekclaaDoor.Num
