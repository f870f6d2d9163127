/-
  The reference's Most and SamePairs.
-/
import Derived.Test.YtlnlddnjalfamaaGreatDoorHq
import Derived.Test.YtlnlddnjalfamaaGreatDoorJa
import Derived.BigQuiet
namespace Go.Proofs.YtlnlddnjalfamaaGreatDoor
open Go.RowKit Go.Deep

/-- how many pairs n horses have -/
def triN (p : Nat) : Nat := p * (p - 1) / 2
theorem triN_two (p : Nat) : 2 * triN p + p = p * p := by
  unfold triN
  have h : p * (p - 1) % 2 = 0 := by
    induction p with
    | zero => rfl
    | succ p ih =>
      rw [Nat.add_sub_cancel]
      cases p with
      | zero => rfl
      | succ q =>
        rw [Nat.add_sub_cancel] at ih
        have e : (q + 1 + 1) * (q + 1) = (q + 1) * q + 2 * (q + 1) := by grind
        rw [e]
        omega
  have e : p * p = p * (p - 1) + p := by
    cases p with
    | zero => rfl
    | succ q => rw [Nat.add_sub_cancel, ← Nat.mul_succ]
  omega
def insN (n r : Nat) : Nat → Nat
  | 0 => 0
  | k + 1 => insN n r k + triN (partN n r k)
theorem insN_two (n r k : Nat) : 2 * insN n r k + fstN n r k = sqN n r k := by
  induction k with
  | zero => rfl
  | succ k ih =>
    simp only [insN, fstN, sqN]
    have := triN_two (partN n r k)
    omega
theorem fstN_to (n r k : Nat) : fstN n r k = min k (n % r) * (n / r + 1) + (k - min k (n % r)) * (n / r) := by
  induction k with
  | zero => simp [fstN]
  | succ k ih =>
    simp only [fstN, ih, partN]
    generalize n % r = m
    generalize n / r = q
    by_cases h : k < m
    · rw [if_pos h, Nat.min_eq_left (by omega : k ≤ m), Nat.min_eq_left (by omega : k + 1 ≤ m), Nat.sub_self, Nat.sub_self]
      rw [Nat.succ_mul]
      omega
    · rw [if_neg h, Nat.min_eq_right (by omega : m ≤ k), Nat.min_eq_right (by omega : m ≤ k + 1), show k + 1 - m = (k - m) + 1 by omega]
      rw [Nat.succ_mul (k - m) q]
      omega
theorem fstN_end {n r : Nat} (hr : 0 < r) : fstN n r r = n := by
  rw [fstN_to]
  have h1 := Nat.div_add_mod n r
  have h2 := Nat.mod_lt n hr
  generalize n % r = m at *
  generalize n / r = q at *
  rw [Nat.min_eq_right (by omega)]
  obtain ⟨t, rfl⟩ : ∃ t, r = m + t := ⟨r - m, by omega⟩
  rw [Nat.add_sub_cancel_left]
  subst h1
  grind
theorem most_ins {n r : Nat} (hr : 0 < r) : mostN n r = (triN n : Int) - (insN n r r : Int) ∧ insN n r r ≤ triN n := by
  rw [mostN_nat hr]
  have h1 := insN_two n r r
  have h2 := triN_two n
  have h3 := sqN_sq (n := n) hr
  rw [fstN_end hr] at h1
  omega
theorem tri_int {p : Nat} (hp : p ≤ 1000) : ∃ A : Int, (p : Int) * ((p : Int) - 1) = A ∧ 0 ≤ A ∧ A ≤ 1000000 ∧ Int.tdiv A 2 = (triN p : Int) := by
  have e : (p : Int) * ((p : Int) - 1) = ((p * (p - 1) : Nat) : Int) := by
    cases p with
    | zero => rfl
    | succ q =>
      rw [Nat.add_sub_cancel, Int.natCast_mul]
      congr 1
      omega
  have h : p * (p - 1) ≤ 1000 * 1000 := Nat.mul_le_mul hp (by omega)
  refine ⟨_, e, Int.natCast_nonneg _, by omega, ?_⟩
  exact (Int.ofNat_tdiv (p * (p - 1)) 2).symm
set_option maxRecDepth 100000 in
set_option maxHeartbeats 4000000 in
theorem SamePairs_any (w : World) (u v : Value) (l : List (Nat × Nat)) (hu : PrsAt w u l) (hv : PrsAt w v l) (hl : l.length ≤ 1000000) :
    Calls Tryz.prog 32 #[u, v] w fun e w' => e = .returned (.bool true) ∧ Quiet w w' := by
  obtain ⟨a, b, o, cap, rfl, ha, hc⟩ := hu
  obtain ⟨a2, b2, o2, cap2, rfl, ha2, hc2⟩ := hv
  obtain ⟨n, HN⟩ : ∃ n, Hid (n = l.length) := ⟨_, rfl⟩
  rw [← HN.out] at ha hc ha2 hc2 hl ⊢
  have HC := Lib.hid hc
  have HC2 := Lib.hid hc2
  clear hc hc2
  go_enter Tryz.func32, Tryz.ntmps32
  go_wp2_with fail
  go_loopg [5] n (fun g s5 wr => ∃ k : Nat, k ≤ n ∧ g = n - k ∧ s5 = .int .i64 k ∧ Quiet w wr)
  case atStart => exact ⟨0, Nat.zero_le _, rfl, by first | rfl | go_num, Quiet.refl _⟩
  case round =>
    obtain ⟨k, hk, rfl, rfl, hQ⟩ := hrel
    by_cases hlt : k < n
    · obtain rfl := ha (by omega)
      obtain rfl := ha2 (by omega)
      obtain ⟨x0, x1⟩ := HC.out k hlt
      obtain ⟨y0, y1⟩ := HC2.out k hlt
      have x0 := hQ.kept.cellSome x0
      have x1 := hQ.kept.cellSome x1
      have y0 := hQ.kept.cellSome y0
      have y1 := hQ.kept.cellSome y1
      have s1 : (k : Int) < (n : Int) := by omega
      have s2 : (0 : Int) ≤ (k : Int) := by omega
      (try dsimp only at x0 x1 y0 y1)
      generalize (((l.getD k (0, 0)).1 : Nat) : Int) = A at *
      generalize (((l.getD k (0, 0)).2 : Nat) : Int) = B at *
      go_wp2_with fail
      go_quiet (fail)
      go_wp2_with fail
      go_roundg (n - (k + 1))
      case measure => omega
      case rel => exact ⟨k + 1, by omega, rfl, by first | rfl | go_num, hQ.drewN _⟩
    · obtain rfl : k = n := by omega
      have s1 : ¬ (k : Int) < (k : Int) := by omega
      go_wp2_with fail
      go_ret
      exact ⟨rfl, hQ⟩
end Go.Proofs.YtlnlddnjalfamaaGreatDoor
