/-
  Package herd: parted, Turan.
  Package herd: Turan; the pairs of Turan's herd as a list.
-/
import Derived.Test.YtlnlddnjalfamaaGreatDoorHq
import Derived.Test.YtlnlddnjalfamaaGreatDoorHm
import Derived.Deep.RegionWith
namespace Go.Proofs.YtlnlddnjalfamaaGreatDoor
open Go.RowKit Go.Deep

/-- how many horses are in the first parts -/
def fstN (n r : Nat) : Nat → Nat
  | 0 => 0
  | k + 1 => fstN n r k + partN n r k
/-- with which others horse i of Turan's herd gets along, once the first parts are written -/
def ptH (n r : Nat) : Nat → Nat → Nat
  | 0 => fun _ => 0
  | k + 1 => fun i => if fstN n r k ≤ i ∧ i < fstN n r (k + 1) then bsub (allH n) (2 ^ fstN n r (k + 1) - 2 ^ fstN n r k) else ptH n r k i
theorem fst_all : (List.range 10).all (fun n => (List.range 10).all fun r => (List.range 10).all fun k => r == 0 || decide (r < k) || decide (fstN n r k ≤ n)) = true := by decide +kernel
theorem fst_le {n r k : Nat} (hn : n ≤ 9) (hr : 1 ≤ r) (hr2 : r ≤ 9) (hk : k ≤ r) : fstN n r k ≤ n := by
  have h := fst_all
  rw [List.all_eq_true] at h
  have h1 := h n (by simp; omega)
  rw [List.all_eq_true] at h1
  have h2 := h1 r (by simp; omega)
  rw [List.all_eq_true] at h2
  have h3 := h2 k (by simp; omega)
  simp at h3
  omega
def PartedPost (w : World) (n r : Nat) (e : Ending) (w' : World) : Prop := ∃ g, e = .returned (.slice (some ⟨g, 0, none⟩) n n) ∧ w.heap.size ≤ g ∧ w'.rowIs g 84 n (fun i => setV (ptH n r r i)) ∧ Kept w w'
end Go.Proofs.YtlnlddnjalfamaaGreatDoor
namespace Go.Proofs.YtlnlddnjalfamaaGreatDoor
open Go.RowKit Go.Deep

theorem ptH_lt (n r k : Nat) (hn : n ≤ 14) (i : Nat) : ptH n r k i < 65536 := by
  induction k with
  | zero => exact (by decide : 0 < 65536)
  | succ k ih =>
    simp only [ptH]
    split
    · exact Nat.lt_of_le_of_lt (bsub_le _ _) (allH_lt (by omega))
    · exact ih
/-- in which part each horse is: those of the first k parts -/
def prtL (n r k : Nat) : List Nat := (List.range k).flatMap fun p => List.replicate (partN n r p) p
theorem prtL_succ (n r k : Nat) : prtL n r (k + 1) = prtL n r k ++ List.replicate (partN n r k) k := by
  unfold prtL
  rw [List.range_succ, List.flatMap_append]
  simp
/-- the pairs with horse i and another one, below m, of another part -/
def turR (l : List Nat) (i m : Nat) : List (Nat × Nat) := ((List.range m).filter fun j => decide (i < j) && !(l.getD i 0 == l.getD j 0)).map fun j => (i, j)
theorem turR_succ (l : List Nat) (i m : Nat) : turR l i (m + 1) = turR l i m ++ (if i < m ∧ ¬ l.getD i 0 = l.getD m 0 then [(i, m)] else []) := by
  unfold turR
  rw [List.range_succ, List.filter_append, List.map_append]
  congr 1
  by_cases h1 : i < m
  · by_cases h2 : l.getD i 0 = l.getD m 0
    · simp only [List.getD_eq_getElem?_getD] at h2
      simp [h1, h2]
    · simp only [List.getD_eq_getElem?_getD] at h2
      simp [h1, h2]
  · simp [h1]
theorem turR_zero (l : List Nat) (i : Nat) : turR l i (i + 1) = [] := by
  unfold turR
  rw [List.map_eq_nil_iff, List.filter_eq_nil_iff]
  intro j hj
  simp at hj
  simp
  intro h
  omega
theorem turR_len (l : List Nat) (i m : Nat) : (turR l i m).length ≤ m := by
  unfold turR
  rw [List.length_map]
  exact Nat.le_trans (List.length_filter_le _ _) (by simp)
/-- the pairs of Turan's herd whose first horse is one of the first k -/
def turL (l : List Nat) (n k : Nat) : List (Nat × Nat) := (List.range k).flatMap fun i => turR l i n
theorem turL_succ (l : List Nat) (n k : Nat) : turL l n (k + 1) = turL l n k ++ turR l k n := by
  unfold turL
  rw [List.range_succ, List.flatMap_append]
  simp
theorem turL_len (l : List Nat) (n k : Nat) : (turL l n k).length ≤ k * n := by
  induction k with
  | zero => exact Nat.zero_le _
  | succ k ih =>
    rw [turL_succ, List.length_append, Nat.succ_mul]
    have := turR_len l k n
    omega
def turanL (n r : Nat) : List (Nat × Nat) := turL (prtL n r r) n n
theorem tur_all : (List.range 10).all (fun n => (List.range 10).all fun r => r == 0 || (decide (pairsH (ptH n r r) n = turanL n r) && decide ((prtL n r r).length = n))) = true := by decide +kernel
theorem tur_both {n r : Nat} (hn : n ≤ 9) (hr : 1 ≤ r) (hr2 : r ≤ 9) : pairsH (ptH n r r) n = turanL n r ∧ (prtL n r r).length = n := by
  have h := tur_all
  rw [List.all_eq_true] at h
  have h1 := h n (by simp; omega)
  rw [List.all_eq_true] at h1
  have h2 := h1 r (by simp; omega)
  rw [Bool.or_eq_true, Bool.and_eq_true, decide_eq_true_eq, decide_eq_true_eq] at h2
  rcases h2 with h2 | h2
  · simp at h2; omega
  · exact h2
def TuranPost (w : World) (n r : Int) (e : Ending) (w' : World) : Prop := Kept w w' ∧ if withinB n 9 && withinB r 9 then ∃ v, e = .returned (.tuple #[v, .int .i64 0]) ∧ PrsAt w' v (turanL n.toNat r.toNat) else e = .returned (.tuple #[.slice none 0 0, .int .i64 1])
end Go.Proofs.YtlnlddnjalfamaaGreatDoor
