/-
  Package gait: changed, product, isPrime, legendre.
-/
import Derived.Test.YthigeafojekclaaDoorGc
import Derived.RegionTactic
import Derived.BigRegion
namespace Go.Proofs.YthigeafojekclaaDoor
open Go.RowKit Go.Deep Go.Shelf

theorem box_cell (W : World) (v : Value) (t : TypeId) : (W.alloc (.cells #[v] t)).cell? ⟨W.heap.size, 0, none⟩ = some v := by unfold World.cell?; dsimp only; rw [blk_alloc_new]; rfl
/-- no number from 2 up to k divides p -/
def noDiv (p : Nat) : Nat → Bool
  | 0 => true
  | k + 1 => noDiv p k && (decide (k < 2) || decide (p % k ≠ 0))
def primeB (p : Nat) : Bool := noDiv p p
theorem noDiv_false {p k n : Nat} (hk : 2 ≤ k) (hn : k < n) (h : p % k = 0) : noDiv p n = false := by
  induction n with
  | zero => omega
  | succ n ih =>
    simp only [noDiv]
    by_cases e : k = n
    · subst e; simp [h]; omega
    · rw [ih (by omega)]; rfl
set_option maxRecDepth 100000 in
set_option maxHeartbeats 4000000 in
theorem isPrime_any (w : World) (p : Nat) (hp2 : 2 ≤ p) (hp : p ≤ 1000) :
    Calls Tryd.prog 41 #[.int .i64 p] w fun e w' => e = .returned (.bool (primeB p)) ∧ w = w' := by
  go_enter Tryd.func41, Tryd.ntmps41
  go_wp2_with fail
  go_loopg [3] p (fun g s3 wr => ∃ d : Nat, 2 ≤ d ∧ d ≤ p ∧ g + d = p + 2 ∧ s3 = .int .i64 d ∧ w = wr ∧ Hid (noDiv p d = true))
  case atStart => exact ⟨2, by omega, by omega, by omega, rfl, rfl, by show _ = _; simp [noDiv]⟩
  case round =>
    obtain ⟨d, hd2, hd, hg, rfl, rfl, hA⟩ := hrel
    by_cases hlt : d < p
    · have s2 : (d : Int) < (p : Int) := by omega
      have s3 : ¬ (d : Int) = 0 := by omega
      obtain ⟨r, HR⟩ : ∃ r : Nat, Hid (r = p % d) := ⟨_, rfl⟩
      have e1 : Int.tmod (p : Int) (d : Int) = (r : Int) := by rw [HR.out]; exact (Int.ofNat_tmod p d).symm
      by_cases h0 : r = 0
      · have hno : Hid (primeB p = false) := by show _ = _; exact noDiv_false hd2 hlt (by rw [← HR.out]; exact h0)
        have e2 : ((r : Int) == 0) = true := by simp [h0]
        clear HR hA h0
        go_wp2_with fail
        go_ret
        exact ⟨ret_bool hno.out.symm, rfl⟩
      · have hA2 : Hid (noDiv p (d + 1) = true) := by
          show _ = _
          simp only [noDiv]
          rw [hA.out, ← HR.out]
          simp [h0]
        have e2 : ((r : Int) == 0) = false := by simp; omega
        clear HR hA h0
        go_wp2_with fail
        go_roundg (p + 2 - (d + 1))
        case measure => omega
        case rel => exact ⟨d + 1, by omega, by omega, by omega, by go_num, rfl, hA2.out⟩
    · obtain rfl : d = p := by omega
      go_wp2_with fail
      go_ret
      exact ⟨ret_bool hA.out.symm, rfl⟩
end Go.Proofs.YthigeafojekclaaDoor
