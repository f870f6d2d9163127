/-
  Package road: fits, Cost; the reference's AtPlaces, Planned.
-/
import Derived.Test.YtlgpclnmonpkjaaWp
import Derived.Test.YtlgpclnmonpkjaaVc
namespace Go.Proofs.Ytlgpclnmonpkjaa
open Go.RowKit Go.Deep

def fitB (k : Nat) (F : Nat → Int) (n m : Nat) : Bool := allN (fun i => decide (0 ≤ F i) && decide (F i < k)) n && decide (n = m)
theorem fitB_iff {k : Nat} {F : Nat → Int} {n m : Nat} : fitB k F n m = true ↔ (∀ i, i < n → 0 ≤ F i ∧ F i < k) ∧ n = m := by
  unfold fitB
  simp only [Bool.and_eq_true, decide_eq_true_eq, allN_true]
set_option maxRecDepth 100000 in
set_option maxHeartbeats 4000000 in
theorem fits_any (w : World) (v fv : Value) (R : Road) (ok : R.Ok) (k m : Nat) (C : Nat → Nat) (S : Nat → Nat) (M : Nat) (s0 : Nat) (hP : PlansAt w v R k m C s0 S M) (n : Nat) (F : Nat → Int) (hFv : IntsAt w fv n F) (hn : n ≤ 1000000000) :
    Calls Try.prog 65 #[v, fv] w fun e w' => e = .returned (.bool (fitB k F n m)) ∧ Kept w w' := by
  obtain ⟨b0, o0, c0, b1, o1, c1, b2, o2, c2, ca, cb, co, ccap, rfl, _, _, _⟩ := hP.open ok
  obtain ⟨fa, fb, fo, fcap, rfl, hfa, hfc⟩ := hFv
  obtain ⟨n0, HN0⟩ : ∃ n0, w.heap.size = n0 := ⟨_, rfl⟩
  obtain ⟨W1, hW1, hsz, q0, q1, q2, q3, q4, q5, q6, q7, q8, q9, hK⟩ := newbox10 w n0 HN0 (.slice (some ⟨b0, o0, none⟩) R.n c0) (.slice (some ⟨b1, o1, none⟩) R.n c1) (.slice (some ⟨b2, o2, none⟩) R.n c2) (.slice ca m ccap) (.int .i64 (k : Int)) (.int .i64 (s0 : Int)) (.int .i64 (S 0 : Int)) (.int .i64 (S 1 : Int)) (.int .i64 (S 2 : Int)) (.map (some M)) 106
  have HFC := Lib.hid (fun i hi => hK.cellSome (hfc i hi))
  clear hfc hP q0 q1 q2 q5 q6 q7 q8 q9
  go_enter Try.func65, Try.ntmps65
  go_wp2_with fail
  clear hW1 hsz HN0
  go_loopg [9] n (fun g s9 wr => ∃ i : Nat, i ≤ n ∧ g = n - i ∧ s9 = .int .i64 i ∧ Hid (allN (fun i => decide (0 ≤ F i) && decide (F i < k)) i = true) ∧ Kept W1 wr)
  case atStart => exact ⟨0, Nat.zero_le _, rfl, rfl, rfl, Kept.refl _⟩
  case round =>
    obtain ⟨i, hle, rfl, rfl, hA, hK2⟩ := hrel
    obtain ⟨z3, z4, _⟩ := keep2 q3 q4 hK2
    by_cases hlt : i < n
    · obtain rfl := hfa (by omega)
      have n1 : (i : Int) < (n : Int) := by omega
      have n2 : (0 : Int) ≤ (i : Int) := by omega
      obtain ⟨p, HP⟩ : ∃ p, Hid (p = F i) := ⟨_, rfl⟩
      have h1 : wr.cell? ⟨fb, fo + i, none⟩ = some (.int .i64 p) := by rw [HP.out]; exact hK2.cellSome (HFC.out i hlt)
      by_cases e0 : p < 0
      · have hv : Hid (fitB k F n m = false) := by
          show _ = _
          cases h : fitB k F n m with
          | false => rfl
          | true => have := ((fitB_iff.1 h).1 i hlt).1; rw [← HP.out] at this; omega
        go_wp2_with fail
        go_ret
        exact ⟨ret_bool (by rw [hv.out]), hK.trans hK2⟩
      · by_cases e1 : p < (k : Int)
        · have hA2 : Hid (allN (fun i => decide (0 ≤ F i) && decide (F i < k)) (i + 1) = true) := allN_step hA.out (by rw [← HP.out, decide_eq_true e1, decide_eq_true (show 0 ≤ p by omega)]; rfl)
          have e2 : ¬ (k : Int) ≤ p := by omega
          go_wp2_with fail
          go_roundg (n - (i + 1))
          case measure => omega
          case rel => exact ⟨i + 1, by omega, rfl, by go_num, hA2.out, hK2⟩
        · have hv : Hid (fitB k F n m = false) := by
            show _ = _
            cases h : fitB k F n m with
            | false => rfl
            | true => have := ((fitB_iff.1 h).1 i hlt).2; rw [← HP.out] at this; omega
          have e2 : (k : Int) ≤ p := by omega
          go_wp2_with fail
          go_ret
          exact ⟨ret_bool (by rw [hv.out]), hK.trans hK2⟩
    · obtain rfl : i = n := by omega
      have hv : Hid (fitB k F i m = decide (i = m)) := by show _ = _; unfold fitB; rw [hA.out]; rfl
      have d2 : ((i : Int) == (m : Int)) = decide (i = m) := nat_beq2 i m
      have D2 := Lib.hid d2
      clear d2
      go_wp2_with fail
      go_ret
      exact ⟨ret_bool (by rw [hv.out, ← D2.out]), hK.trans hK2⟩
set_option maxRecDepth 100000 in
set_option maxHeartbeats 2000000 in
theorem rAtPlaces_any (w : World) (hv : Value) (k : Nat) (A B : Nat → Int) (hP : PairsAt w hv k A B) (hk : k ≤ 1000000000) :
    Calls Try.prog 36 #[hv] w fun e w' => e = .returned (.bool (allN (fun i => decide (B i = 0)) k)) ∧ w = w' := by
  obtain ⟨a, hb, ho, hcap, rfl, ha, hc⟩ := hP
  have HC := Lib.hid hc
  clear hc
  go_enter Try.func36, Try.ntmps36
  go_wp2_with fail
  go_loopg [3] k (fun g s3 wr => ∃ i : Nat, i ≤ k ∧ g = k - i ∧ s3 = .int .i64 i ∧ Hid (allN (fun i => decide (B i = 0)) i = true) ∧ w = wr)
  case atStart => exact ⟨0, Nat.zero_le _, rfl, rfl, rfl, rfl⟩
  case round =>
    obtain ⟨i, hle, rfl, rfl, hA, rfl⟩ := hrel
    by_cases hlt : i < k
    · obtain rfl := ha (by omega)
      obtain ⟨h1, h2⟩ := HC.out i hlt
      have n1 : (i : Int) < (k : Int) := by omega
      have n2 : (0 : Int) ≤ (i : Int) := by omega
      obtain ⟨u, HU⟩ : ∃ u, Hid (u = B i) := ⟨_, rfl⟩
      rw [← HU.out] at h2
      by_cases e1 : u = 0
      · have hA2 : Hid (allN (fun i => decide (B i = 0)) (i + 1) = true) := allN_step hA.out (by rw [← HU.out, decide_eq_true e1])
        have b1 : (u != 0) = false := by simp [e1]
        clear e1
        go_wp2_with fail
        go_roundg (k - (i + 1))
        case measure => omega
        case rel => exact ⟨i + 1, by omega, rfl, by go_num, hA2.out, rfl⟩
      · have hv : Hid (allN (fun i => decide (B i = 0)) k = false) := allN_false hlt (by rw [← HU.out, decide_eq_false e1])
        have b1 : (u != 0) = true := by simp [e1]
        go_wp2_with fail
        go_ret
        exact ⟨ret_bool (by rw [hv.out]), rfl⟩
    · obtain rfl : i = k := by omega
      go_wp2_with fail
      go_ret
      exact ⟨ret_bool (by rw [hA.out]), rfl⟩
set_option maxRecDepth 100000 in
set_option maxHeartbeats 4000000 in
theorem rPlanned_any (w : World) (hv cv fv : Value) (k : Nat) (A B : Nat → Int) (hP : PairsAt w hv k A B) (m : Nat) (C : Nat → Int) (hC : IntsAt w cv m C) (n : Nat) (F : Nat → Int) (hFv : IntsAt w fv n F) (hk : k ≤ 1000000000) (hn : n ≤ 1000000000) :
    Calls Try.prog 42 #[hv, cv, fv] w fun e w' => e = .returned (.bool (fitB k F n m)) ∧ Kept w w' := by
  obtain ⟨a, hb, ho, hcap, rfl, _, _⟩ := hP
  obtain ⟨ca, cb, co, ccap, rfl, _, _⟩ := hC
  obtain ⟨fa, fb, fo, fcap, rfl, hfa, hfc⟩ := hFv
  have HFC := Lib.hid hfc
  have s1 : IntKind.i64.wrap ((k : Int) - 1) = (k : Int) - 1 := IntWalk.i64_in _ (by omega)
  clear hfc
  go_enter Try.func42, Try.ntmps42
  go_wp2_with fail
  go_loopg [7] n (fun g s7 wr => ∃ i : Nat, i ≤ n ∧ g = n - i ∧ s7 = .int .i64 i ∧ Hid (allN (fun i => decide (0 ≤ F i) && decide (F i < k)) i = true) ∧ w = wr)
  case atStart => exact ⟨0, Nat.zero_le _, rfl, rfl, rfl, rfl⟩
  case round =>
    obtain ⟨i, hle, rfl, rfl, hA, rfl⟩ := hrel
    by_cases hlt : i < n
    · obtain rfl := hfa (by omega)
      have h1 := HFC.out i hlt
      have n1 : (i : Int) < (n : Int) := by omega
      have n2 : (0 : Int) ≤ (i : Int) := by omega
      obtain ⟨p, HP⟩ : ∃ p, Hid (p = F i) := ⟨_, rfl⟩
      rw [← HP.out] at h1
      obtain ⟨b, HB⟩ : ∃ b, Hid (b = (decide (0 ≤ p) && decide (p < (k : Int)))) := ⟨_, rfl⟩
      have e1 : (decide ((0 : Int) ≤ p) && decide (p ≤ (k : Int) - 1)) = b := by rw [HB.out, decide_eq_decide.2 (show p ≤ (k : Int) - 1 ↔ p < (k : Int) by omega)]
      have E1 := Lib.hid e1
      clear HFC e1
      cases b with
      | true =>
        have hA2 : Hid (allN (fun i => decide (0 ≤ F i) && decide (F i < k)) (i + 1) = true) := allN_step hA.out (by rw [← HP.out]; exact HB.out.symm)
        go_wp2_with (first | (go_at_call 49; refine (in_b _ _ _ _ _ (by first | exact E1.out)).mono ?_; rintro e w4 ⟨rfl, rfl⟩))
        go_roundg (n - (i + 1))
        case measure => omega
        case rel => exact ⟨i + 1, by omega, rfl, by go_num, hA2.out, rfl⟩
      | false =>
        have hv : Hid (fitB k F n m = false) := by
          show _ = _
          unfold fitB
          rw [allN_false hlt (by rw [← HP.out]; exact HB.out.symm)]
          rfl
        go_wp2_with (first | (go_at_call 49; refine (in_b _ _ _ _ _ (by first | exact E1.out)).mono ?_; rintro e w4 ⟨rfl, rfl⟩))
        go_ret
        exact ⟨ret_bool (by rw [hv.out]), Kept.refl _⟩
    · obtain rfl : i = n := by omega
      have hv : Hid (fitB k F i m = decide (i = m)) := by show _ = _; unfold fitB; rw [hA.out]; rfl
      have d2 : ((i : Int) == (m : Int)) = decide (i = m) := nat_beq2 i m
      have D2 := Lib.hid d2
      clear d2
      go_wp2_with fail
      go_ret
      exact ⟨ret_bool (by rw [hv.out, ← D2.out]), Kept.refl _⟩
end Go.Proofs.Ytlgpclnmonpkjaa
