/-
  The reference's Form: what is wrong with outlines.
-/
import Derived.Test.YtomnjcjipdnnfaaKb
namespace Go.Proofs.Ytomnjcjipdnnfaa
open Go.RowKit Go.Deep

theorem form_bad1 {n k : Nat} {X Y : Nat → Int} (hk : k < n) (h : placeB (X k) = false ∨ placeB (Y k) = false) : formB n X Y = false := by
  unfold formB
  rw [allN_false (p := fun i => placeB (X i) && placeB (Y i)) hk (by rcases h with h | h <;> simp [h])]; rfl
theorem placeB_no1 {x : Int} (h : x < -1000) : placeB x = false := by unfold placeB; simp; omega
theorem placeB_no2 {x : Int} (h : 1000 < x) : placeB x = false := by unfold placeB; simp; omega
theorem placeB_yes {x : Int} (h1 : ¬ x < -1000) (h2 : ¬ 1000 < x) : placeB x = true := by unfold placeB; simp; omega
set_option maxRecDepth 100000 in
set_option maxHeartbeats 4000000 in
theorem Form_any (w : World) (ov : Value) (q : Nat) (len : Nat → Nat) (X Y : Nat → Nat → Int) (hO : OutsAt w ov q len X Y) (hq : q ≤ 1000) (hlen : ∀ i, i < q → len i ≤ 1000000) :
    Calls Try.prog 18 #[ov] w fun e w' => e = .returned (.int .i64 (checkC 0 q len X Y)) ∧ Kept w w' := by
  obtain ⟨va, vc, ⟨a, b, o, cap, rfl, ha, hc⟩, hP⟩ := hO
  obtain ⟨C, HCC⟩ : ∃ C, Hid (C = checkC 0 q len X Y) := ⟨_, rfl⟩
  rw [← HCC.out]
  have HC := Lib.hid hc
  have HP := Lib.hid hP
  clear hc hP
  go_enter Try.func18, Try.ntmps18
  go_wp2_with fail
  go_loopg [3] q (fun g s3 wr => ∃ k : Nat, k ≤ q ∧ g = q - k ∧ s3 = .int .i64 k ∧ Hid (allN (fun i => decide (len i ≤ 30)) k = true) ∧ w = wr)
  case atStart => exact ⟨0, Nat.zero_le _, rfl, rfl, rfl, rfl⟩
  case round =>
    obtain ⟨k, hk, rfl, rfl, hH, rfl⟩ := hrel
    by_cases hlt : k < q
    · obtain rfl := ha (by omega)
      have t0 := HC.out k hlt
      have hl := hlen k hlt
      by_cases h30 : (30 : Int) < (len k : Int)
      · have hcode : Hid (C = 3) := by
          show _ = _
          rw [HCC.out]; unfold checkC
          rw [allN_false (p := fun i => decide (len i ≤ 30)) hlt (by simp; omega)]; rfl
        go_wp2_with fail
        go_ret
        exact ⟨by rw [hcode.out]; rfl, Kept.refl _⟩
      · have hS : Hid (allN (fun i => decide (len i ≤ 30)) (k + 1) = true) := allN_step hH.out (by simp; omega)
        go_wp2_with fail
        go_roundg (q - (k + 1))
        case measure => omega
        case rel => exact ⟨k + 1, by omega, rfl, by go_num, hS, rfl⟩
    · obtain rfl : k = q := by omega
      go_wp2_with fail
      go_loopg [4] k (fun g s4 wi => ∃ t : Nat, t ≤ k ∧ g = k - t ∧ s4 = .int .i64 t ∧ Hid (allN (fun i => formB (len i) (X i) (Y i)) t = true) ∧ Kept w wi)
      case atStart => exact ⟨0, Nat.zero_le _, rfl, rfl, rfl, Kept.refl _⟩
      case round =>
        obtain ⟨t, ht, rfl, rfl, hF, hK⟩ := hrel
        by_cases hlt2 : t < k
        · obtain rfl := ha (by omega)
          have t0 := HC.out t hlt2
          have hl := hlen t hlt2
          obtain ⟨pa, pb, po, pc, he, hpa, hpc⟩ := HP.out t hlt2
          have HPC := Lib.hid hpc
          cases he
          have hbad : Hid (formB (len t) (X t) (Y t) = false → C = 2) := by
            intro e1
            rw [HCC.out]; unfold checkC
            rw [hH.out, allN_false (p := fun i => formB (len i) (X i) (Y i)) hlt2 e1]; rfl
          clear hpc
          go_wp2_with fail
          go_loopg [5] (len t) (fun g s5 wr => ∃ i : Nat, i ≤ len t ∧ g = len t - i ∧ s5 = .int .i64 i ∧ Hid (allN (fun i => placeB (X t i) && placeB (Y t i)) i = true) ∧ Kept w wr)
          case atStart => exact ⟨0, Nat.zero_le _, rfl, rfl, rfl, hK⟩
          case round =>
            clear hK
            obtain ⟨i, hi, rfl, rfl, hG, hK⟩ := hrel
            have t1 := hK.cellSome t0
            by_cases hlt3 : i < len t
            · have hsp := hpa (by omega)
              rw [hsp] at t1
              obtain ⟨c0, c1⟩ := HPC.out i hlt3
              have r0 := hK.cellSome c0
              have r1 := hK.cellSome c1
              obtain ⟨x, HX⟩ : ∃ x, Hid (x = X t i) := ⟨_, rfl⟩
              obtain ⟨y, HY⟩ : ∃ y, Hid (y = Y t i) := ⟨_, rfl⟩
              rw [← HX.out] at r0
              rw [← HY.out] at r1
              obtain ⟨q0, q1⟩ := box2 wr (.int .i64 x) (.int .i64 y) 78
              have hkB : Kept w (wr.alloc (.cells #[.int .i64 x, .int .i64 y] 78)) := hK.alloc _
              clear c0 c1 hsp
              by_cases hgood : placeB x = true ∧ placeB y = true
              · have hp := hgood
                obtain ⟨g1, g2⟩ := hp
                have z1 := placeB_pl g1
                have z2 := placeB_pl g2
                unfold pl at z1 z2
                have hS : Hid (allN (fun i => placeB (X t i) && placeB (Y t i)) (i + 1) = true) := allN_step hG.out (by show (placeB (X t i) && placeB (Y t i)) = true; rw [← HX.out, ← HY.out, g1, g2]; rfl)
                clear hgood g1 g2
                have n1 : ¬ x < -1000 := by omega
                have n2 : ¬ 1000 < x := by omega
                have n3 : ¬ y < -1000 := by omega
                have n4 : ¬ 1000 < y := by omega
                go_wp2_with fail
                go_roundg (len t - (i + 1))
                case measure => omega
                case rel => exact ⟨i + 1, by omega, rfl, by go_num, hS, by first | exact hkB | exact hkB.drewN _⟩
              · have hcode : Hid (C = 2) := hbad.out (form_bad1 hlt3 (by
                  rw [← HX.out, ← HY.out]
                  cases e1 : placeB x
                  · exact .inl rfl
                  · cases e2 : placeB y
                    · exact .inr rfl
                    · exact absurd ⟨e1, e2⟩ hgood))
                by_cases n1 : x < -1000
                · clear hgood
                  go_wp2_with fail
                  go_ret
                  exact ⟨by rw [hcode.out]; rfl, by first | exact hkB | exact hkB.drewN _⟩
                · by_cases n2 : 1000 < x
                  · clear hgood
                    go_wp2_with fail
                    go_ret
                    exact ⟨by rw [hcode.out]; rfl, by first | exact hkB | exact hkB.drewN _⟩
                  · by_cases n3 : y < -1000
                    · clear hgood
                      go_wp2_with fail
                      go_ret
                      exact ⟨by rw [hcode.out]; rfl, by first | exact hkB | exact hkB.drewN _⟩
                    · have n4 : 1000 < y := by
                        by_cases n4 : 1000 < y
                        · exact n4
                        · exact absurd ⟨placeB_yes n1 n2, placeB_yes n3 n4⟩ hgood
                      clear hgood
                      go_wp2_with fail
                      go_ret
                      exact ⟨by rw [hcode.out]; rfl, by first | exact hkB | exact hkB.drewN _⟩
            · obtain rfl : i = len t := by omega
              by_cases h0 : len t = 0
              · have hcode : Hid (C = 2) := hbad.out (by unfold formB; rw [h0]; rfl)
                have z0 : ((len t : Int) == 0) = true := by simp [h0]
                clear h0
                go_wp2_with fail
                go_ret
                exact ⟨by rw [hcode.out]; rfl, hK⟩
              · have z0 : ((len t : Int) == 0) = false := by simp [h0]
                have hS : Hid (allN (fun i => formB (len i) (X i) (Y i)) (t + 1) = true) := allN_step hF.out (by unfold formB; rw [hG.out]; simp; omega)
                clear h0
                go_wp2_with fail
                go_roundg (k - (t + 1))
                case measure => omega
                case rel => exact ⟨t + 1, by omega, rfl, by go_num, hS, hK⟩
        · obtain rfl : t = k := by omega
          have hcode : Hid (C = 0) := by
            show _ = _
            rw [HCC.out]; unfold checkC
            rw [hH.out, hF.out, if_pos rfl, if_pos rfl, if_neg (by omega)]
          go_wp2_with fail
          go_ret
          exact ⟨by rw [hcode.out]; rfl, hK⟩
end Go.Proofs.Ytomnjcjipdnnfaa
