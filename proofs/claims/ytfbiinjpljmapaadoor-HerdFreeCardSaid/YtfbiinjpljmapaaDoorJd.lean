/-
  The reference's Most and SamePairs.
-/
import Derived.Test.YtfbiinjpljmapaaDoorHq
import Derived.Test.YtfbiinjpljmapaaDoorJa
import Derived.BigQuiet
namespace Go.Proofs.YtfbiinjpljmapaaDoor
open Go.RowKit Go.Deep

/-- how many pairs n horses have -/
def triN (p : Nat) : Nat := p * (p - 1) / 2
theorem triN_two (p : Nat) : 2 * triN p + p = p * p := by
  unfold triN
  have h : p * (p - 1) % 2 = 0 := by
    induction p with
    | zero => rfl
    | succ p ih =>
      rw [Nat.add_sub_cancel]
      cases p with
      | zero => rfl
      | succ q =>
        rw [Nat.add_sub_cancel] at ih
        have e : (q + 1 + 1) * (q + 1) = (q + 1) * q + 2 * (q + 1) := by grind
        rw [e]
        omega
  have e : p * p = p * (p - 1) + p := by
    cases p with
    | zero => rfl
    | succ q => rw [Nat.add_sub_cancel, ← Nat.mul_succ]
  omega
def insN (n r : Nat) : Nat → Nat
  | 0 => 0
  | k + 1 => insN n r k + triN (partN n r k)
theorem insN_two (n r k : Nat) : 2 * insN n r k + fstN n r k = sqN n r k := by
  induction k with
  | zero => rfl
  | succ k ih =>
    simp only [insN, fstN, sqN]
    have := triN_two (partN n r k)
    omega
theorem fstN_to (n r k : Nat) : fstN n r k = min k (n % r) * (n / r + 1) + (k - min k (n % r)) * (n / r) := by
  induction k with
  | zero => simp [fstN]
  | succ k ih =>
    simp only [fstN, ih, partN]
    generalize n % r = m
    generalize n / r = q
    by_cases h : k < m
    · rw [if_pos h, Nat.min_eq_left (by omega : k ≤ m), Nat.min_eq_left (by omega : k + 1 ≤ m), Nat.sub_self, Nat.sub_self]
      rw [Nat.succ_mul]
      omega
    · rw [if_neg h, Nat.min_eq_right (by omega : m ≤ k), Nat.min_eq_right (by omega : m ≤ k + 1), show k + 1 - m = (k - m) + 1 by omega]
      rw [Nat.succ_mul (k - m) q]
      omega
theorem fstN_end {n r : Nat} (hr : 0 < r) : fstN n r r = n := by
  rw [fstN_to]
  have h1 := Nat.div_add_mod n r
  have h2 := Nat.mod_lt n hr
  generalize n % r = m at *
  generalize n / r = q at *
  rw [Nat.min_eq_right (by omega)]
  obtain ⟨t, rfl⟩ : ∃ t, r = m + t := ⟨r - m, by omega⟩
  rw [Nat.add_sub_cancel_left]
  subst h1
  grind
theorem most_ins {n r : Nat} (hr : 0 < r) : mostN n r = (triN n : Int) - (insN n r r : Int) ∧ insN n r r ≤ triN n := by
  rw [mostN_nat hr]
  have h1 := insN_two n r r
  have h2 := triN_two n
  have h3 := sqN_sq (n := n) hr
  rw [fstN_end hr] at h1
  omega
theorem tri_int {p : Nat} (hp : p ≤ 1000) : ∃ A : Int, (p : Int) * ((p : Int) - 1) = A ∧ 0 ≤ A ∧ A ≤ 1000000 ∧ Int.tdiv A 2 = (triN p : Int) := by
  have e : (p : Int) * ((p : Int) - 1) = ((p * (p - 1) : Nat) : Int) := by
    cases p with
    | zero => rfl
    | succ q =>
      rw [Nat.add_sub_cancel, Int.natCast_mul]
      congr 1
      omega
  have h : p * (p - 1) ≤ 1000 * 1000 := Nat.mul_le_mul hp (by omega)
  refine ⟨_, e, Int.natCast_nonneg _, by omega, ?_⟩
  exact (Int.ofNat_tdiv (p * (p - 1)) 2).symm
set_option maxRecDepth 100000 in
set_option maxHeartbeats 4000000 in
theorem refMost_any (w : World) (n r : Nat) (hn : n ≤ 1000) (hr : 0 < r) (hr2 : r ≤ 1000) :
    Calls Tryd.prog 22 #[.int .i64 n, .int .i64 r] w fun e w' => e = .returned (.int .i64 (mostN n r)) ∧ w = w' := by
  have r0 : ¬ (r : Int) = 0 := by omega
  have hq : n / r ≤ n := Nat.div_le_self _ _
  have hm : n % r < r := Nat.mod_lt _ hr
  have hv : Hid (∀ p, partN n r p = if p < n % r then n / r + 1 else n / r) := fun p => rfl
  obtain ⟨hans, hle⟩ := most_ins (n := n) hr
  have hans : Hid (mostN n r = (triN n : Int) - (insN n r r : Int)) := hans
  obtain ⟨A, a1, a2, a3, a4⟩ := tri_int hn
  have wa1 : IntKind.i64.wrap ((n : Int) * ((n : Int) - 1)) = A := by rw [a1]; exact IntWalk.i64_in _ (by omega)
  have hbd : Hid (∀ k, k ≤ r → insN n r k ≤ 1000000000) := fun k hk => by
    have h1 := insN_two n r k
    have h2 := sqN_le (n := n) hr hn k hk
    omega
  have hpl : Hid (∀ k, partN n r k ≤ n) := fun k => partN_le k hr
  have htn : triN n ≤ 1000000 := by
    have h1 := triN_two n
    have h2 : n * n ≤ 1000 * 1000 := Nat.mul_le_mul hn hn
    omega
  obtain ⟨T, HT⟩ : ∃ q, Hid (q = triN n) := ⟨_, rfl⟩
  rw [← HT.out] at a4 hle htn hans
  have wT : IntKind.i64.wrap (T : Int) = (T : Int) := IntWalk.i64_in _ (by omega)
  obtain ⟨q, HQ⟩ : ∃ q, Hid (q = n / r) := ⟨_, rfl⟩
  obtain ⟨m, HM⟩ : ∃ m, Hid (m = n % r) := ⟨_, rfl⟩
  have e1 : Int.tdiv (n : Int) (r : Int) = (q : Int) := by rw [HQ.out]; exact (Int.ofNat_tdiv n r).symm
  have e2 : Int.tmod (n : Int) (r : Int) = (m : Int) := by rw [HM.out]; exact (Int.ofNat_tmod n r).symm
  rw [← HQ.out] at hq hv
  rw [← HM.out] at hm hv
  have w0 : IntKind.i64.wrap (q : Int) = q := IntWalk.i64_in _ (by omega)
  clear HQ HM HT a1
  go_enter Tryd.func22, Tryd.ntmps22
  go_wp2_with fail
  go_loopg [5, 6] r (fun g s5 s6 wr => ∃ k : Nat, k ≤ r ∧ g = r - k ∧ s6 = .int .i64 k ∧ s5 = .int .i64 (insN n r k) ∧ w = wr)
  case atStart => exact ⟨0, Nat.zero_le _, rfl, by first | rfl | go_num, rfl, rfl⟩
  case round =>
    obtain ⟨k, hk, rfl, rfl, rfl, rfl⟩ := hrel
    by_cases hlt : k < r
    · have s1 : (k : Int) < (r : Int) := by omega
      have hb1 := hbd.out k (by omega)
      have hpk := hv.out k
      have hnext : Hid (insN n r (k + 1) = insN n r k + triN (partN n r k)) := rfl
      have hb2 := hbd.out (k + 1) (by omega)
      obtain ⟨B, b1, b2, b3, b4⟩ := tri_int (p := partN n r k) (by have := hpl.out k; omega)
      have hp1 := hpl.out k
      obtain ⟨p, HP⟩ : ∃ p, Hid (p = partN n r k) := ⟨_, rfl⟩
      rw [← HP.out] at hpk b1 b4 hp1 hnext
      obtain ⟨U, HU⟩ : ∃ u, Hid (u = triN p) := ⟨_, rfl⟩
      rw [← HU.out] at b4 hnext
      obtain ⟨I, HI⟩ : ∃ u, Hid (u = insN n r k) := ⟨_, rfl⟩
      rw [hnext.out] at hb2
      rw [← HI.out] at hb1 hb2 hnext
      rw [← HI.out]
      have wB : IntKind.i64.wrap ((p : Int) * ((p : Int) - 1)) = B := by rw [b1]; exact IntWalk.i64_in _ (by omega)
      have wU : IntKind.i64.wrap (U : Int) = (U : Int) := IntWalk.i64_in _ (by omega)
      have wI : IntKind.i64.wrap ((I : Int) + (U : Int)) = (I : Int) + (U : Int) := IntWalk.i64_in _ (by omega)
      clear b1 HP HU HI
      by_cases hkm : k < m
      · have s2 : (k : Int) < (m : Int) := by omega
        rw [if_pos hkm] at hpk
        have hpq : (q : Int) + 1 = (p : Int) := by omega
        have wq : IntKind.i64.wrap (p : Int) = p := IntWalk.i64_in _ (by omega)
        clear hpk
        go_wp2_with fail
        go_roundg (r - (k + 1))
        case measure => omega
        case rel => exact ⟨k + 1, by omega, rfl, by first | rfl | go_num, by rw [hnext.out]; first | rfl | go_num, rfl⟩
      · have s2 : ¬ (k : Int) < (m : Int) := by omega
        rw [if_neg hkm] at hpk
        obtain rfl : p = q := hpk
        go_wp2_with fail
        go_roundg (r - (k + 1))
        case measure => omega
        case rel => exact ⟨k + 1, by omega, rfl, by first | rfl | go_num, by rw [hnext.out]; first | rfl | go_num, rfl⟩
    · obtain rfl : k = r := by omega
      obtain ⟨I, HI⟩ : ∃ u, Hid (u = insN n k k) := ⟨_, rfl⟩
      rw [← HI.out] at hle hans
      rw [← HI.out]
      have wI : IntKind.i64.wrap ((T : Int) - (I : Int)) = (T : Int) - (I : Int) := IntWalk.i64_in _ (by omega)
      clear HI
      go_wp2_with fail
      go_ret
      exact ⟨ret_int hans.out.symm, rfl⟩
set_option maxRecDepth 100000 in
set_option maxHeartbeats 4000000 in
theorem SamePairs_any (w : World) (u v : Value) (l : List (Nat × Nat)) (hu : PrsAt w u l) (hv : PrsAt w v l) (hl : l.length ≤ 1000000) :
    Calls Tryd.prog 20 #[u, v] w fun e w' => e = .returned (.bool true) ∧ Quiet w w' := by
  obtain ⟨a, b, o, cap, rfl, ha, hc⟩ := hu
  obtain ⟨a2, b2, o2, cap2, rfl, ha2, hc2⟩ := hv
  obtain ⟨n, HN⟩ : ∃ n, Hid (n = l.length) := ⟨_, rfl⟩
  rw [← HN.out] at ha hc ha2 hc2 hl ⊢
  have HC := Lib.hid hc
  have HC2 := Lib.hid hc2
  clear hc hc2
  go_enter Tryd.func20, Tryd.ntmps20
  go_wp2_with fail
  go_loopg [5] n (fun g s5 wr => ∃ k : Nat, k ≤ n ∧ g = n - k ∧ s5 = .int .i64 k ∧ Quiet w wr)
  case atStart => exact ⟨0, Nat.zero_le _, rfl, by first | rfl | go_num, Quiet.refl _⟩
  case round =>
    obtain ⟨k, hk, rfl, rfl, hQ⟩ := hrel
    by_cases hlt : k < n
    · obtain rfl := ha (by omega)
      obtain rfl := ha2 (by omega)
      obtain ⟨x0, x1⟩ := HC.out k hlt
      obtain ⟨y0, y1⟩ := HC2.out k hlt
      have x0 := hQ.kept.cellSome x0
      have x1 := hQ.kept.cellSome x1
      have y0 := hQ.kept.cellSome y0
      have y1 := hQ.kept.cellSome y1
      have s1 : (k : Int) < (n : Int) := by omega
      have s2 : (0 : Int) ≤ (k : Int) := by omega
      (try dsimp only at x0 x1 y0 y1)
      generalize (((l.getD k (0, 0)).1 : Nat) : Int) = A at *
      generalize (((l.getD k (0, 0)).2 : Nat) : Int) = B at *
      go_wp2_with fail
      go_quiet (fail)
      go_wp2_with fail
      go_roundg (n - (k + 1))
      case measure => omega
      case rel => exact ⟨k + 1, by omega, rfl, by first | rfl | go_num, hQ.drewN _⟩
    · obtain rfl : k = n := by omega
      have s1 : ¬ (k : Int) < (k : Int) := by omega
      go_wp2_with fail
      go_ret
      exact ⟨rfl, hQ⟩
end Go.Proofs.YtfbiinjpljmapaaDoor
