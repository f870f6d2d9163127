/-
  Rows of ints: one number changed.
-/
import Derived.Test.YtlnpipkhofhlnaaLb
namespace Go.Proofs.Ytlnpipkhofhlnaa
open Go.RowKit Go.Deep

theorem ints_set (f : Nat → Int) (N j : Nat) (x : Int) : (ints f N).set j (.int .i64 x) = ints (fun i => if i = j then x else f i) N := by
  apply List.ext_getElem?
  intro i
  rw [List.getElem?_set]
  simp only [ints, List.length_map, List.length_range, List.getElem?_map]
  by_cases e : j = i
  · subst e
    by_cases h : j < N <;> simp [h]
  · have e' : ¬ i = j := fun h => e h.symm
    by_cases h : i < N <;> simp [e, e', h]
theorem ints_congr {f g : Nat → Int} {N : Nat} (h : ∀ i, i < N → f i = g i) : ints f N = ints g N := by
  unfold ints
  apply List.map_congr_left
  intro i hi
  rw [h i (by simpa using hi)]
theorem ints_some (f : Nat → Int) {N j : Nat} (h : j < N) : (ints f N)[j]? = some (.int .i64 (f j)) := by simp [ints, h]
theorem ints_len (f : Nat → Int) (N : Nat) : (ints f N).length = N := by simp [ints]
end Go.Proofs.Ytlnpipkhofhlnaa
