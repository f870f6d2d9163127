/-
  The program's stableHeaps, level and next.
-/
import Derived.Test.YtlnpipkhofhlnaaBn
import Derived.Test.YtlnpipkhofhlnaaEn
import Derived.Test.YtlnpipkhofhlnaaV
import Derived.Deep.QuietTactic
import Derived.BigQuiet
namespace Go.Proofs.Ytlnpipkhofhlnaa
open Go.RowKit Go.Deep

def degT (D : Nat → Nat) : Nat → Nat := fun i => D (i + 1)
theorem prodN_bd {D : Nat → Nat} {N : Nat} (h : ∀ i, i < N → D i ≤ 20) (hN : N ≤ 7) : prodN D N ≤ 1280000000 := by
  have h1 := prodN_20 h
  have h2 : 20 ^ N ≤ 20 ^ 7 := Nat.pow_le_pow_right (by omega) hN
  have h3 : (20 : Nat) ^ 7 = 1280000000 := by decide
  omega
set_option maxRecDepth 100000 in
set_option maxHeartbeats 2000000 in
theorem stableHeaps_any (w : World) (n m bd bj : Nat) (br D : Nat → Nat) (J : Nat → Nat → Nat) (hY : YardAt w n bd bj br D J) (ok : YardOk n D J) :
    Calls Try.prog 50 #[YardV n m bd bj] w fun e w' => e = .returned (.int .i64 (prodN (degT D) (n - 1) : Nat)) ∧ Kept w w' := by
  have hn2 := ok.n2
  have hn8 := ok.n8
  obtain ⟨N, rfl⟩ : ∃ N, n = N + 1 := ⟨n - 1, by omega⟩
  simp only [Nat.add_sub_cancel]
  have hD : ∀ i, i < N → degT D i ≤ 20 := fun i hi => ok.D20 (i + 1) (by omega)
  have HD := Lib.hid hD
  obtain ⟨c0, c1, c2, c3⟩ := YBox.new w (N + 1) m bd bj 78
  have hK0 : Kept w (w.alloc (.cells #[.int .i64 ((N : Int) + 1), .int .i64 m, .slice (some ⟨bd, 0, none⟩) (N + 1) (N + 1), .slice (some ⟨bj, 0, none⟩) (N + 1) (N + 1)] 78)) := (Kept.refl w).alloc _
  have hsl := slice1 N bd (w.alloc (.cells #[.int .i64 ((N : Int) + 1), .int .i64 m, .slice (some ⟨bd, 0, none⟩) (N + 1) (N + 1), .slice (some ⟨bj, 0, none⟩) (N + 1) (N + 1)] 78)) (by omega)
  clear hD
  unfold YardV
  go_enter Try.func50, Try.ntmps50
  go_wp2_with fail
  generalize w.alloc (.cells #[.int .i64 ((N : Int) + 1), .int .i64 m, .slice (some ⟨bd, 0, none⟩) (N + 1) (N + 1), .slice (some ⟨bj, 0, none⟩) (N + 1) (N + 1)] 78) = W at *
  go_loopg [3, 10] N (fun g s3 s10 wr => ∃ k : Nat, k ≤ N ∧ g = N - k ∧ s3 = .int .i64 ((prodN (degT D) k : Nat) : Int) ∧ s10 = .int .i64 (k : Int) ∧ Kept w wr)
  case atStart => exact ⟨0, Nat.zero_le _, rfl, rfl, rfl, hK0⟩
  case round =>
    obtain ⟨k, hk, rfl, rfl, rfl, hK⟩ := hrel
    by_cases hlt : k < N
    · have t1 := (hK.row hY.deg).cell (i := k + 1) (by omega)
      have hb := prodN_bd (N := k) (D := degT D) (fun i hi => HD.out i (by omega)) (by omega)
      have hb2 := prodN_bd (N := k + 1) (D := degT D) (fun i hi => HD.out i (by omega)) (by omega)
      have he : prodN (degT D) (k + 1) = prodN (degT D) k * D (k + 1) := rfl
      obtain ⟨P, HP⟩ : ∃ P, Hid (P = prodN (degT D) k) := ⟨_, rfl⟩
      rw [← HP.out] at hb he ⊢
      rw [he] at hb2
      have HE := Lib.hid he
      obtain ⟨d, HDD⟩ : ∃ d, Hid (d = D (k + 1)) := ⟨_, rfl⟩
      rw [← HDD.out] at t1 hb2
      have s1 : IntKind.i64.wrap ((P : Int) * (d : Int)) = (P : Int) * (d : Int) := IntWalk.i64_in _ (by
        have : ((P * d : Nat) : Int) ≤ 1280000000 := by omega
        rw [Int.natCast_mul] at this
        have : 0 ≤ (P : Int) * (d : Int) := Int.mul_nonneg (by omega) (by omega)
        omega)
      have s2 : (k : Int) < (N : Int) := by omega
      have s3 : (0 : Int) ≤ (k : Int) := by omega
      rw [Nat.add_comm] at t1
      clear he hb hb2
      go_wp2_with fail
      go_roundg (N - (k + 1))
      case measure => omega
      case rel => exact ⟨k + 1, by omega, rfl, by rw [HE.out, ← HDD.out, Int.natCast_mul], by go_num, hK⟩
    · obtain rfl : k = N := by omega
      go_wp2_with fail
      go_ret
      exact ⟨rfl, hK⟩
set_option maxRecDepth 100000 in
set_option maxHeartbeats 2000000 in
theorem level_any (w : World) (n m bd bj : Nat) (br D : Nat → Nat) (J : Nat → Nat → Nat) (lv : Value) (f : Nat → Int) (hY : YardAt w n bd bj br D J) (ok : YardOk n D J) (hm : m ≤ 20) (hL : IntsAt w lv (n - 1) f) (hf : ∀ i, i < n - 1 → 0 ≤ f i ∧ f i ≤ 20) :
    Calls Try.prog 51 #[YardV n m bd bj, lv] w fun e w' => e = .returned (.int .i64 ((D 0 : Int) - m + sumZ f (n - 1))) ∧ Kept w w' := by
  have hn2 := ok.n2
  have hn8 := ok.n8
  obtain ⟨a, b, o, cap, rfl, ha, hc⟩ := hL
  obtain rfl := ha (by omega)
  have hd0 := ok.D20 0 (by omega)
  obtain ⟨d0, HD0⟩ : ∃ d0, Hid (d0 = D 0) := ⟨_, rfl⟩
  rw [← HD0.out] at hd0 ⊢
  obtain ⟨N, HN⟩ : ∃ N, Hid (N = n - 1) := ⟨_, rfl⟩
  have hN7 : N ≤ 7 := by rw [HN.out]; omega
  rw [← HN.out] at hc hf ⊢
  have HC := Lib.hid hc
  have HF := Lib.hid hf
  obtain ⟨c0, c1, c2, c3⟩ := YBox.new w n m bd bj 78
  have hK0 : Kept w (w.alloc (.cells #[.int .i64 n, .int .i64 m, .slice (some ⟨bd, 0, none⟩) n n, .slice (some ⟨bj, 0, none⟩) n n] 78)) := (Kept.refl w).alloc _
  clear hc hf
  unfold YardV
  go_enter Try.func51, Try.ntmps51
  go_wp2_with fail
  generalize w.alloc (.cells #[.int .i64 n, .int .i64 m, .slice (some ⟨bd, 0, none⟩) n n, .slice (some ⟨bj, 0, none⟩) n n] 78) = W at *
  have t0 := (hK0.row hY.deg).cell (i := 0) (by omega)
  rw [← HD0.out] at t0
  have g1 : (0 : Int) < (n : Int) := by omega
  have g2 : 0 < n := by omega
  have s0 : IntKind.i64.wrap ((d0 : Int) - (m : Int)) = (d0 : Int) - (m : Int) := IntWalk.i64_in _ (by omega)
  go_quiet (fail)
  go_wp2_with fail
  have hK1 : Kept w (W.drewN nq) := hK0.drewN _
  clear hK0 t0 c0 c1 c2 c3
  generalize W.drewN nq = W1 at *
  go_loopg [5, 17] N (fun g s5 s17 wr => ∃ k : Nat, k ≤ N ∧ g = N - k ∧ s5 = .int .i64 ((d0 : Int) - m + sumZ f k) ∧ s17 = .int .i64 (k : Int) ∧ Kept w wr)
  case atStart => exact ⟨0, Nat.zero_le _, rfl, by simp [sumZ], rfl, hK1⟩
  case round =>
    obtain ⟨k, hk, rfl, rfl, rfl, hK⟩ := hrel
    by_cases hlt : k < N
    · have t1 := hK.cellSome (HC.out k hlt)
      have hb : 0 ≤ sumZ f k ∧ sumZ f k ≤ 20 * (k : Int) := ⟨sumZ_nonneg (fun i hi => (HF.out i (by omega)).1), sumZ_bound (fun i hi => (HF.out i (by omega)).2)⟩
      have hfk := HF.out k hlt
      have he : sumZ f (k + 1) = sumZ f k + f k := rfl
      obtain ⟨S, HS⟩ : ∃ S, Hid (S = sumZ f k) := ⟨_, rfl⟩
      rw [← HS.out] at hb he ⊢
      have HE := Lib.hid he
      have s1 : IntKind.i64.wrap ((d0 : Int) - m + S + f k) = (d0 : Int) - m + S + f k := IntWalk.i64_in _ (by omega)
      have s2 : (k : Int) < (N : Int) := by omega
      have s3 : (0 : Int) ≤ (k : Int) := by omega
      clear he
      go_wp2_with fail
      go_roundg (N - (k + 1))
      case measure => omega
      case rel => exact ⟨k + 1, by omega, rfl, by rw [HE.out]; go_num, by go_num, hK⟩
    · obtain rfl : k = N := by omega
      go_wp2_with fail
      go_ret
      exact ⟨rfl, hK⟩
end Go.Proofs.Ytlnpipkhofhlnaa
