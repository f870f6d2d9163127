/-
  The walk that is followed through a table: its pairs. No memory here.
-/
import Derived.Test.YtfmcjbddbomohaaD
import Derived.Test.YtfmcjbddbomohaaK
namespace Go.Proofs.Ytfmcjbddbomohaa

def pth (m n : Nat) (L : Nat → Nat → Int) : Nat → Nat × Nat
  | 0 => (0, 0)
  | t + 1 => nxt m n L (pth m n L t).1 (pth m n L t).2
def pA (m n : Nat) (L : Nat → Nat → Int) : Nat → Int := fun t => ((pth m n L t).1 : Int)
def pB (m n : Nat) (L : Nat → Nat → Int) : Nat → Int := fun t => ((pth m n L t).2 : Int)
/-- the walk is at its end after t steps, and not before -/
def EndsAt (m n : Nat) (L : Nat → Nat → Int) (t : Nat) : Prop := ((pth m n L t).1 + 1 = m ∧ (pth m n L t).2 + 1 = n) ∧ ∀ u, u < t → ¬ ((pth m n L u).1 + 1 = m ∧ (pth m n L u).2 + 1 = n)
theorem pth_in {m n : Nat} {L : Nat → Nat → Int} (hm : 1 ≤ m) (hn : 1 ≤ n) (t : Nat) (h : ∀ u, u < t → ¬ ((pth m n L u).1 + 1 = m ∧ (pth m n L u).2 + 1 = n)) : (pth m n L t).1 < m ∧ (pth m n L t).2 < n ∧ t ≤ (pth m n L t).1 + (pth m n L t).2 := by
  induction t with
  | zero => exact ⟨hm, hn, Nat.zero_le _⟩
  | succ t ih =>
    have h1 := ih (fun u hu => h u (by omega))
    have h2 := nxt_spec (L := L) h1.1 h1.2.1 (h t (by omega))
    exact ⟨h2.1, h2.2.1, by show t + 1 ≤ (nxt m n L _ _).1 + (nxt m n L _ _).2; omega⟩
end Go.Proofs.Ytfmcjbddbomohaa
