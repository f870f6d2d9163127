/-
  The law MarkRuns, walked.
-/
import Derived.Test.YtjcgplocifmolaaLw
namespace Go.Proofs.Ytjcgplocifmolaa
open Go.RowKit Go.Deep Go.Sort

theorem bin_wordC {l : Wd} (h : Bin l) (hl : l.length ≤ 20) : wordC 20 2 l = 0 := by
  unfold wordC
  rw [if_pos hl, if_pos (belB_dig.2 (bin_dig.2 h))]
theorem shC_bin {l : Wd} (h : Bin l) (hl : l.length ≤ 20) (h0 : l ≠ []) : shC l = 0 := by
  unfold shC
  rw [if_pos (bin_wordC h hl), if_neg h0]
theorem cntR_le (p : Nat → Bool) (k : Nat) : cntR p k ≤ k := by
  induction k with
  | zero => simp [cntR]
  | succ k ih => simp only [cntR]; split <;> omega
end Go.Proofs.Ytjcgplocifmolaa
