/-
  The herd of r parts: its pairs, its greatest group (plain numbers).
-/
import Derived.Test.YtfbiinjpljmapaaDoorKu
namespace Go.Proofs.YtfbiinjpljmapaaDoor
open Go.RowKit Go.Deep

theorem cliq_congr {H K : Nat → Nat} {n : Nat} (h : ∀ i, i < n → H i = K i) (f : Nat) : ∀ g nx, cliq H n f g nx = cliq K n f g nx := by
  induction f with
  | zero => intro g nx; rfl
  | succ f ih =>
    intro g nx
    rw [cliq_succ, cliq_succ]
    congr 1
    have e : ∀ k, k ≤ n → cliqTo H n f g nx k = cliqTo K n f g nx k := fun k => by
      induction k with
      | zero => intro _; rfl
      | succ k ihk =>
        intro hk
        rw [cliqTo_succ, cliqTo_succ, ihk (by omega), ih, h k (by omega)]
    exact e n (Nat.le_refl _)
theorem best_congr {H K : Nat → Nat} {n : Nat} (h : ∀ i, i < n → H i = K i) : best H n = best K n := by
  unfold best
  rw [cliq_congr h]
theorem tur_len : (List.range 10).all (fun n => (List.range 10).all fun r => r == 0 || (decide (((turanL n r).length : Int) = mostN n r) && decide ((turanL n r).length ≤ 36) && allN (pairB (n : Int) (prA (turanL n r)) (prB (turanL n r))) (turanL n r).length)) = true := by decide +kernel
theorem tur_tab : (List.range 10).all (fun n => (List.range 10).all fun r => r == 0 || (List.range n).all fun i => alongH (prA (turanL n r)) (prB (turanL n r)) (turanL n r).length i == ptH n r r i) = true := by decide +kernel
theorem tur_bst : (List.range 10).all (fun n => (List.range 10).all fun r => n == 0 || r == 0 || size16 (best (fun i => ((List.range n).map (ptH n r r)).getD i 0) n) == min n r) = true := by decide +kernel
theorem mem_range10 {k : Nat} (h : k ≤ 9) : k ∈ List.range 10 := by simp; omega
theorem turan_pairs {n r : Nat} (hn : n ≤ 9) (hr : 1 ≤ r) (hr9 : r ≤ 9) : ((turanL n r).length : Int) = mostN n r ∧ (turanL n r).length ≤ 36 ∧ allN (pairB (n : Int) (prA (turanL n r)) (prB (turanL n r))) (turanL n r).length = true := by
  have h := List.all_eq_true.1 (List.all_eq_true.1 tur_len n (mem_range10 hn)) r (mem_range10 hr9)
  have h0 : (r == 0) = false := by simp; omega
  rw [h0, Bool.false_or, Bool.and_eq_true, Bool.and_eq_true, decide_eq_true_eq, decide_eq_true_eq] at h
  exact ⟨h.1.1, h.1.2, h.2⟩
theorem turan_group {n r : Nat} (h1 : 1 ≤ n) (hn : n ≤ 9) (hr : 1 ≤ r) (hr9 : r ≤ 9) : size16 (best (alongH (prA (turanL n r)) (prB (turanL n r)) (turanL n r).length) n) = min n r := by
  have h := List.all_eq_true.1 (List.all_eq_true.1 tur_bst n (mem_range10 hn)) r (mem_range10 hr9)
  have k := List.all_eq_true.1 (List.all_eq_true.1 tur_tab n (mem_range10 hn)) r (mem_range10 hr9)
  have h0 : (r == 0) = false := by simp; omega
  have n0 : (n == 0) = false := by simp; omega
  rw [h0, n0, Bool.false_or, Bool.false_or] at h
  rw [h0, Bool.false_or] at k
  rw [← beq_iff_eq.1 h]
  congr 1
  refine best_congr fun i hi => ?_
  have := List.all_eq_true.1 k i (by simpa using hi)
  rw [beq_iff_eq.1 this]
  simp [List.getD, hi]
end Go.Proofs.YtfbiinjpljmapaaDoor
