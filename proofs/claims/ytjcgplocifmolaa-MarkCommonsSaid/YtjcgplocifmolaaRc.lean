/-
  The reference of mark: Part.
-/
import Derived.Test.YtjcgplocifmolaaMa
namespace Go.Proofs.Ytjcgplocifmolaa
open Go.RowKit Go.Deep

theorem sub_step {s t : Wd} {k i : Nat} (hk : k < s.length) (hi : i < t.length) : (s.drop k).isSublist (t.drop i) = if t[i] = s[k] then (s.drop (k + 1)).isSublist (t.drop (i + 1)) else (s.drop k).isSublist (t.drop (i + 1)) := by
  conv => lhs; rw [List.drop_eq_getElem_cons hk, List.drop_eq_getElem_cons hi]
  simp only [List.isSublist]
  by_cases h : t[i] = s[k]
  · rw [if_pos h, h]; simp
  · rw [if_neg h]
    have : (s[k] == t[i]) = false := by simp only [beq_eq_false_iff_ne]; exact fun e => h e.symm
    rw [this, ← List.drop_eq_getElem_cons hk]; rfl
end Go.Proofs.Ytjcgplocifmolaa
