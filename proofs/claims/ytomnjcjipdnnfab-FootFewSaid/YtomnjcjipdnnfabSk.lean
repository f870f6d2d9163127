/-
  When a point may follow another in a short form: the program's skips.
-/
import Derived.Test.YtomnjcjipdnnfabC
namespace Go.Proofs.Ytomnjcjipdnnfab
open Go.RowKit Go.Deep

/-- the points between i and j: the first ones go with i, the others with j -/
def SkipsAt (A B : Nat → Int) (lim : Int) (i j : Nat) : Prop := ∃ k, i ≤ k ∧ k < j ∧ (∀ p, i < p → p ≤ k → dist (A p) (B p) (A i) (B i) ≤ lim) ∧ ∀ p, k < p → p < j → dist (A p) (B p) (A j) (B j) ≤ lim
def RestAt (A B : Nat → Int) (lim : Int) (k j : Nat) : Prop := ∀ p, k < p → p < j → dist (A p) (B p) (A j) (B j) ≤ lim
theorem skips_most {A B : Nat → Int} {lim : Int} {i j k : Nat} (h1 : i ≤ k) (h2 : k < j) (h3 : ∀ p, i < p → p ≤ k → dist (A p) (B p) (A i) (B i) ≤ lim) (h4 : k + 1 < j → ¬ dist (A (k + 1)) (B (k + 1)) (A i) (B i) ≤ lim) : SkipsAt A B lim i j ↔ RestAt A B lim k j := by
  constructor
  · rintro ⟨k', g1, g2, g3, g4⟩ p hp hp2
    by_cases e : k' ≤ k
    · exact g4 p (by omega) hp2
    · exact absurd (g3 (k + 1) (by omega) (by omega)) (h4 (by omega))
  · intro h
    exact ⟨k, h1, h2, h3, h⟩
def SkipsPost (w : World) (A B : Nat → Int) (lim : Int) (i j : Nat) (e : Ending) (w' : World) : Prop := ∃ b : Bool, e = .returned (.bool b) ∧ (b = true ↔ SkipsAt A B lim i j) ∧ Kept w w'
end Go.Proofs.Ytomnjcjipdnnfab
