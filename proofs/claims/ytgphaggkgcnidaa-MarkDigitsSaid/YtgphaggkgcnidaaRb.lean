/-
  The reference of mark: Sum.
-/
import Derived.Test.YtgphaggkgcnidaaMa
namespace Go.Proofs.Ytgphaggkgcnidaa
open Go.RowKit Go.Deep

set_option maxRecDepth 100000 in
set_option maxHeartbeats 4000000 in
theorem rSum_any (w : World) (l : Wd) (hl : l.length ≤ 1000) : Calls Try.prog 23 #[.string (bs l)] w fun e w' => e = .returned (.int .i64 (wsum 0 l : Nat)) ∧ w = w' := by
  obtain ⟨n, HN⟩ : ∃ n, Hid (n = l.length) := ⟨_, rfl⟩
  obtain ⟨s, HSS⟩ : ∃ s : ByteArray, Hid (s = bs l) := ⟨_, Lib.hid rfl⟩
  have hsz : s.size = n := by rw [HSS.out, HN.out]; exact bs_size l
  rw [← HN.out] at hl
  rw [← HSS.out]
  go_enter Try.func23, Try.ntmps23
  go_wp2_with fail
  go_loopg [3, 4] n (fun g s3 s4 wr => ∃ i x : Nat, i ≤ n ∧ g = n - i ∧ s4 = .int .i64 i ∧ s3 = .int .i64 x ∧ w = wr ∧ x ≤ 1000000 ∧ Hid (x = wsum 0 (l.take i)))
  case atStart => exact ⟨0, 0, Nat.zero_le _, rfl, rfl, rfl, rfl, by omega, rfl⟩
  case round =>
    obtain ⟨i, x, hi, rfl, rfl, rfl, rfl, hx, HX⟩ := hrel
    by_cases hlt : i < n
    · have s2 : (i : Int) < (n : Int) := by omega
      have s3 : (0 : Int) ≤ (i : Int) := by omega
      have hiL : i < l.length := by rw [← HN.out]; exact hlt
      have hat := chr_at (s := s) (i := i) (by rw [hsz]; exact hlt)
      have hc : chr s i = (l[i].toNat : Int) := by rw [HSS.out]; exact chr_bs hiL
      have hst := wsum_take hiL
      have hbd : wsum 0 (l.take (i + 1)) ≤ 1000000 := wsum_bound (m := 1000) (by omega) (by rw [← HN.out]; exact hl)
      rw [← HX.out] at hst
      by_cases h1 : l[i] = 49
      · have e1 : (chr s i == 49) = true := by rw [hc, h1]; rfl
        rw [if_pos h1] at hst
        have HS := Lib.hid hst
        have hb2 : x + (i + 1) ≤ 1000000 := by omega
        generalize chr s i = c at *
        clear hc h1 hst hbd
        go_wp2_with fail
        go_roundg (n - (i + 1))
        case measure => omega
        case rel => exact ⟨i + 1, x + (i + 1), by omega, rfl, by first | rfl | go_num, by first | rfl | go_num, rfl, hb2, HS.out.symm⟩
      · have e1 : (chr s i == 49) = false := by
          rw [hc]; simp only [beq_eq_false_iff_ne]; intro h; exact h1 ((u8_eq (n := 49) (by omega)).1 h)
        rw [if_neg h1] at hst
        have HS := Lib.hid hst
        generalize chr s i = c at *
        clear hc h1 hst hbd
        go_wp2_with fail
        go_roundg (n - (i + 1))
        case measure => omega
        case rel => exact ⟨i + 1, x, by omega, rfl, by first | rfl | go_num, by first | rfl | go_num, rfl, hx, HS.out.symm⟩
    · obtain rfl : i = n := by omega
      have s2 : ¬ (i : Int) < (i : Int) := by omega
      go_wp2_with fail
      go_ret
      exact ⟨by rw [HX.out, HN.out, List.take_length]; rfl, rfl⟩
end Go.Proofs.Ytgphaggkgcnidaa
