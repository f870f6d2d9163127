/-
  Walks along two outlines: the pair that comes next, whichever pairs there are.
-/
import Derived.Test.YtomnjcjipdnnfaaFa
import Derived.Test.YtomnjcjipdnnfaaFb
import Derived.Test.YtomnjcjipdnnfaaFc
namespace Go.Proofs.Ytomnjcjipdnnfaa
open Go.RowKit Go.Deep

theorem next_any (w : World) (m n i j lb : Nat) (br : Nat → Nat) (L : Nat → Nat → Int) (fv : Value) (hi : i < m) (hj : j < n) (hl : ¬ (i + 1 = m ∧ j + 1 = n)) (hm2 : m ≤ 1000000) (hn2 : n ≤ 1000000)
    (hL : ∀ p q, p < m → q < n → i ≤ p → j ≤ q → i + j < p + q → p ≤ i + 1 → q ≤ j + 1 → w.cell? ⟨lb, p, none⟩ = some (.slice (some ⟨br p, 0, none⟩) n n) ∧ w.cell? ⟨br p, q, none⟩ = some (.int .i64 (L p q))) :
    Calls Try.prog 77 #[WalksV m n fv, PairV i j, .slice (some ⟨lb, 0, none⟩) m m] w fun e w' => e = .returned (PairV (nxt m n L i j).1 (nxt m n L i j).2) ∧ Kept w w' := by
  by_cases h1 : j + 1 < n
  · by_cases h2 : i + 1 < m
    · exact next_both w m n i j lb br L fv hi hj h1 h2 hm2 hn2 hL
    · exact next_j w m n i j lb br L fv hi h1 h2 hm2 hn2 hL
  · exact next_i w m n i j lb br L fv hi hj h1 (by omega) hm2 hn2 hL
end Go.Proofs.Ytomnjcjipdnnfaa
