/-
  The reference's Hands, Calls, There.
-/
import Derived.Test.YtlgpclnmonpkjaaWg
import Derived.Test.YtlgpclnmonpkjaaTr
namespace Go.Proofs.Ytlgpclnmonpkjaa
open Go.RowKit Go.Deep

set_option maxRecDepth 100000 in
set_option maxHeartbeats 4000000 in
theorem rHands_any (w : World) (v hv : Value) (R : Road) (ok : R.Ok) (hT : RefAt w v R) (k : Nat) (A B : Nat → Int) (hP : PairsAt w hv k A B) (hk : k ≤ 1000000000) :
    Calls Try.prog 23 #[v, hv] w fun e w' => e = .returned (.bool (handsOk R k A B)) ∧ Kept w w' := by
  have hT0 := hT
  have hn := ok.max
  have hn1 := ok.pos
  obtain ⟨b0, o0, c0, b1, o1, c1, rfl, _, _⟩ := hT.open ok
  obtain ⟨a, hb, ho, hcap, rfl, ha, hc⟩ := hP
  have IS := Lib.hid (fun W (hW : RefAt W (.agg #[.slice (some ⟨b0, o0, none⟩) R.n c0, .slice (some ⟨b1, o1, none⟩) R.n c1]) R) (p u : Int) => rSpot_any W _ R ok hW p u)
  obtain ⟨n0, HN0⟩ : ∃ n0, w.heap.size = n0 := ⟨_, rfl⟩
  obtain ⟨W1, hW1, hsz, q0, q1, hK⟩ := newbox2 w n0 HN0 (.slice (some ⟨b0, o0, none⟩) R.n c0) (.slice (some ⟨b1, o1, none⟩) R.n c1) 24
  have HC := Lib.hid hc
  have hT1 := hT0.kept hK
  clear hc hT0 hT
  go_enter Try.func23, Try.ntmps23
  go_wp2_with fail
  clear hW1 hsz HN0
  go_loopg [5] k (fun g s5 wr => ∃ i : Nat, i ≤ k ∧ g = k - i ∧ s5 = .int .i64 i ∧ Hid (allN (fun i => R.isSp (A i) (B i)) i = true) ∧ Kept W1 wr)
  case atStart => exact ⟨0, Nat.zero_le _, rfl, rfl, rfl, Kept.refl _⟩
  case round =>
    obtain ⟨i, hle, rfl, rfl, hA, hK2⟩ := hrel
    by_cases hlt : i < k
    · obtain rfl := ha (by omega)
      obtain ⟨c1', c2'⟩ := HC.out i hlt
      have h1 := (hK.trans hK2).cellSome c1'
      have h2 := (hK.trans hK2).cellSome c2'
      obtain ⟨z0, z1, _⟩ := keep2 q0 q1 hK2
      have n1 : (i : Int) < (k : Int) := by omega
      have n2 : (0 : Int) ≤ (i : Int) := by omega
      obtain ⟨p, HP⟩ : ∃ p, Hid (p = A i) := ⟨_, rfl⟩
      rw [← HP.out] at h1
      obtain ⟨u, HU⟩ : ∃ u, Hid (u = B i) := ⟨_, rfl⟩
      rw [← HU.out] at h2
      have hT3 := hT1.kept hK2
      have IS2 := Lib.hid (fun W hW => IS.out W hW p u)
      obtain ⟨b, HB⟩ : ∃ b, Hid (b = R.isSp p u) := ⟨_, rfl⟩
      rw [← HB.out] at IS2
      clear IS HC c1' c2' hT1
      cases b with
      | true =>
        have hA2 : Hid (allN (fun i => R.isSp (A i) (B i)) (i + 1) = true) := allN_step hA.out (by rw [← HP.out, ← HU.out]; exact HB.out.symm)
        go_wp2_with fail
        go_cut [18] (fun v wx => v = .bool false ∧ Kept wr wx)
        case first =>
          go_region_held3 (fun w' => w'.cell? ⟨n0, 0, none⟩ = some (.slice (some ⟨b0, o0, none⟩) R.n c0) ∧ w'.cell? ⟨n0, 1, none⟩ = some (.slice (some ⟨b1, o1, none⟩) R.n c1) ∧ w'.cell? ⟨hb, ho + i * 2, none⟩ = some (.int .i64 p) ∧ w'.cell? ⟨hb, ho + i * 2 + 1, none⟩ = some (.int .i64 u) ∧ Kept wr w')
            (exact keep4 z0 z1 h1 h2 (by repeat (first | assumption | exact Kept.refl _ | apply Kept.drew | apply Kept.drewN | apply Kept.alloc | refine Kept.trans ?_ (by assumption))))
            (first | (go_at_call 18; refine (IS2.out _ (hT3.kept (by repeat (first | assumption | exact Kept.refl _ | apply Kept.drew | apply Kept.drewN | apply Kept.alloc | refine Kept.trans ?_ (by assumption))))).mono ?_; rintro e w4 ⟨rfl, hk4⟩))
          all_goals
            go_wp2_with fail
            go_meet
            exact ⟨rfl, (by repeat (first | assumption | exact Kept.refl _ | apply Kept.drew | apply Kept.drewN | apply Kept.alloc | refine Kept.trans ?_ (by assumption)))⟩
        case rest =>
          obtain ⟨rfl, hhK⟩ := hcut
          go_wp2_with fail
          go_roundg (k - (i + 1))
          case measure => omega
          case rel => exact ⟨i + 1, by omega, rfl, by go_num, hA2.out, hK2.trans hhK⟩
      | false =>
        have hv : Hid (handsOk R k A B = false) := by
          show _ = _
          unfold handsOk
          rw [allN_false hlt (by rw [← HP.out, ← HU.out]; exact HB.out.symm)]
          rfl
        go_wp2_with fail
        go_cut [18] (fun v wx => v = .bool true ∧ Kept wr wx)
        case first =>
          go_region_held3 (fun w' => w'.cell? ⟨n0, 0, none⟩ = some (.slice (some ⟨b0, o0, none⟩) R.n c0) ∧ w'.cell? ⟨n0, 1, none⟩ = some (.slice (some ⟨b1, o1, none⟩) R.n c1) ∧ w'.cell? ⟨hb, ho + i * 2, none⟩ = some (.int .i64 p) ∧ w'.cell? ⟨hb, ho + i * 2 + 1, none⟩ = some (.int .i64 u) ∧ Kept wr w')
            (exact keep4 z0 z1 h1 h2 (by repeat (first | assumption | exact Kept.refl _ | apply Kept.drew | apply Kept.drewN | apply Kept.alloc | refine Kept.trans ?_ (by assumption))))
            (first | (go_at_call 18; refine (IS2.out _ (hT3.kept (by repeat (first | assumption | exact Kept.refl _ | apply Kept.drew | apply Kept.drewN | apply Kept.alloc | refine Kept.trans ?_ (by assumption))))).mono ?_; rintro e w4 ⟨rfl, hk4⟩))
          all_goals
            go_wp2_with fail
            go_meet
            exact ⟨rfl, (by repeat (first | assumption | exact Kept.refl _ | apply Kept.drew | apply Kept.drewN | apply Kept.alloc | refine Kept.trans ?_ (by assumption)))⟩
        case rest =>
          obtain ⟨rfl, hhK⟩ := hcut
          go_wp2_with fail
          go_ret
          exact ⟨ret_bool (by rw [hv.out]), (hK.trans hK2).trans hhK⟩
    · obtain rfl : i = k := by omega
      have hv : Hid (handsOk R i A B = (decide (1 ≤ i) && decide (i ≤ 3))) := by show _ = _; unfold handsOk; rw [hA.out]; rfl
      have i1 : Hid ((decide ((1 : Int) ≤ (i : Int)) && decide ((i : Int) ≤ 3)) = (decide (1 ≤ i) && decide (i ≤ 3))) := by show _ = _; rw [decide_eq_decide.2 (show (1 : Int) ≤ (i : Int) ↔ 1 ≤ i by omega), decide_eq_decide.2 (show (i : Int) ≤ 3 ↔ i ≤ 3 by omega)]
      go_wp2_with (first | (go_at_call 49; refine (in_b _ _ _ _ _ (by first | exact i1.out)).mono ?_; rintro e w5 ⟨rfl, rfl⟩))
      go_ret
      exact ⟨ret_bool (by rw [hv.out]), hK.trans hK2⟩
set_option maxRecDepth 100000 in
set_option maxHeartbeats 4000000 in
theorem rCalls_any (w : World) (v hv : Value) (R : Road) (ok : R.Ok) (hT : RefAt w v R) (k : Nat) (A : Nat → Int) (hP : IntsAt w hv k A) (hk : k ≤ 1000000000) :
    Calls Try.prog 24 #[v, hv] w fun e w' => e = .returned (.bool (callsOk R k A)) ∧ Kept w w' := by
  have hT0 := hT
  have hn := ok.max
  have hn1 := ok.pos
  obtain ⟨b0, o0, c0, b1, o1, c1, rfl, _, _⟩ := hT.open ok
  obtain ⟨a, hb, ho, hcap, rfl, ha, hc⟩ := hP
  obtain ⟨n0, HN0⟩ : ∃ n0, w.heap.size = n0 := ⟨_, rfl⟩
  obtain ⟨W1, hW1, hsz, q0, q1, hK⟩ := newbox2 w n0 HN0 (.slice (some ⟨b0, o0, none⟩) R.n c0) (.slice (some ⟨b1, o1, none⟩) R.n c1) 24
  have HC := Lib.hid hc
  have hT1 := hT0.kept hK
  have s1 : IntKind.i64.wrap ((R.n : Int) - 1) = (R.n : Int) - 1 := IntWalk.i64_in _ (by omega)
  clear hc hT0 hT
  go_enter Try.func24, Try.ntmps24
  go_wp2_with fail
  clear hW1 hsz HN0
  go_loopg [5] k (fun g s5 wr => ∃ i : Nat, i ≤ k ∧ g = k - i ∧ s5 = .int .i64 i ∧ Hid (allN (fun i => decide (0 ≤ A i) && decide (A i < R.n)) i = true) ∧ Kept W1 wr)
  case atStart => exact ⟨0, Nat.zero_le _, rfl, rfl, rfl, Kept.refl _⟩
  case round =>
    obtain ⟨i, hle, rfl, rfl, hA, hK2⟩ := hrel
    by_cases hlt : i < k
    · obtain rfl := ha (by omega)
      have h1 := (hK.trans hK2).cellSome (HC.out i hlt)
      obtain ⟨z0, z1, _⟩ := keep2 q0 q1 hK2
      have n1 : (i : Int) < (k : Int) := by omega
      have n2 : (0 : Int) ≤ (i : Int) := by omega
      obtain ⟨p, HP⟩ : ∃ p, Hid (p = A i) := ⟨_, rfl⟩
      rw [← HP.out] at h1
      obtain ⟨b, HB⟩ : ∃ b, Hid (b = (decide (0 ≤ p) && decide (p < R.n))) := ⟨_, rfl⟩
      have e1 : (decide ((0 : Int) ≤ p) && decide (p ≤ (R.n : Int) - 1)) = b := by rw [HB.out, decide_eq_decide.2 (show p ≤ (R.n : Int) - 1 ↔ p < R.n by omega)]
      have E1 := Lib.hid e1
      clear HC e1
      cases b with
      | true =>
        have hA2 : Hid (allN (fun i => decide (0 ≤ A i) && decide (A i < R.n)) (i + 1) = true) := allN_step hA.out (by rw [← HP.out]; exact HB.out.symm)
        go_wp2_with fail
        go_cut [21] (fun v wx => v = .bool false ∧ Kept wr wx)
        case first =>
          go_region_held3 (fun w' => w'.cell? ⟨n0, 0, none⟩ = some (.slice (some ⟨b0, o0, none⟩) R.n c0) ∧ w'.cell? ⟨n0, 1, none⟩ = some (.slice (some ⟨b1, o1, none⟩) R.n c1) ∧ w'.cell? ⟨hb, ho + i, none⟩ = some (.int .i64 p) ∧ Kept wr w')
            (exact keep3 z0 z1 h1 (by repeat (first | assumption | exact Kept.refl _ | apply Kept.drew | apply Kept.drewN | apply Kept.alloc | refine Kept.trans ?_ (by assumption))))
            (first | (go_at_call 49; refine (in_b _ _ _ _ _ (by first | exact E1.out)).mono ?_; rintro e w4 ⟨rfl, rfl⟩))
          all_goals
            go_wp2_with fail
            go_meet
            exact ⟨rfl, (by repeat (first | assumption | exact Kept.refl _ | apply Kept.drew | apply Kept.drewN | apply Kept.alloc | refine Kept.trans ?_ (by assumption)))⟩
        case rest =>
          obtain ⟨rfl, hhK⟩ := hcut
          go_wp2_with fail
          go_roundg (k - (i + 1))
          case measure => omega
          case rel => exact ⟨i + 1, by omega, rfl, by go_num, hA2.out, hK2.trans hhK⟩
      | false =>
        have hv : Hid (callsOk R k A = false) := by
          show _ = _
          unfold callsOk
          rw [allN_false hlt (by rw [← HP.out]; exact HB.out.symm)]
          rfl
        go_wp2_with fail
        go_cut [21] (fun v wx => v = .bool true ∧ Kept wr wx)
        case first =>
          go_region_held3 (fun w' => w'.cell? ⟨n0, 0, none⟩ = some (.slice (some ⟨b0, o0, none⟩) R.n c0) ∧ w'.cell? ⟨n0, 1, none⟩ = some (.slice (some ⟨b1, o1, none⟩) R.n c1) ∧ w'.cell? ⟨hb, ho + i, none⟩ = some (.int .i64 p) ∧ Kept wr w')
            (exact keep3 z0 z1 h1 (by repeat (first | assumption | exact Kept.refl _ | apply Kept.drew | apply Kept.drewN | apply Kept.alloc | refine Kept.trans ?_ (by assumption))))
            (first | (go_at_call 49; refine (in_b _ _ _ _ _ (by first | exact E1.out)).mono ?_; rintro e w4 ⟨rfl, rfl⟩))
          all_goals
            go_wp2_with fail
            go_meet
            exact ⟨rfl, (by repeat (first | assumption | exact Kept.refl _ | apply Kept.drew | apply Kept.drewN | apply Kept.alloc | refine Kept.trans ?_ (by assumption)))⟩
        case rest =>
          obtain ⟨rfl, hhK⟩ := hcut
          go_wp2_with fail
          go_ret
          exact ⟨ret_bool (by rw [hv.out]), (hK.trans hK2).trans hhK⟩
    · obtain rfl : i = k := by omega
      have hv : Hid (callsOk R i A = decide (i ≤ 12)) := by show _ = _; unfold callsOk; rw [hA.out]; rfl
      have d2 : decide ((i : Int) ≤ 12) = decide (i ≤ 12) := decide_eq_decide.2 (by omega)
      have D2 := Lib.hid d2
      clear d2
      go_wp2_with fail
      go_ret
      exact ⟨ret_bool (by rw [hv.out, ← D2.out]), hK.trans hK2⟩
def offB (A B : Nat → Int) (t : Int) (i : Nat) : Bool := !(decide (A i = t) && decide (B i = 0))
def thereB (A B : Nat → Int) (t : Int) (k : Nat) : Bool := !allN (offB A B t) k
theorem thereB_false {A B : Nat → Int} {t : Int} {k : Nat} (h : allN (offB A B t) k = true) : thereB A B t k = false := by unfold thereB; rw [h]; rfl
theorem thereB_true {A B : Nat → Int} {t : Int} {i k : Nat} (hi : i < k) (h0 : A i = t) (h1 : B i = 0) : thereB A B t k = true := by
  unfold thereB
  rw [allN_false hi (by unfold offB; rw [h0, h1]; simp)]
  rfl
theorem offB_true {A B : Nat → Int} {t : Int} {i : Nat} (h : A i ≠ t ∨ B i ≠ 0) : offB A B t i = true := by
  unfold offB
  rcases h with h | h
  · rw [decide_eq_false h]; rfl
  · rw [decide_eq_false h, Bool.and_false]; rfl
set_option maxRecDepth 100000 in
set_option maxHeartbeats 2000000 in
theorem rThere_any (w : World) (hv : Value) (k : Nat) (A B : Nat → Int) (hP : PairsAt w hv k A B) (t : Int) (hk : k ≤ 1000000000) :
    Calls Try.prog 25 #[hv, .int .i64 t] w fun e w' => e = .returned (.bool (thereB A B t k)) ∧ w = w' := by
  obtain ⟨a, hb, ho, hcap, rfl, ha, hc⟩ := hP
  have HC := Lib.hid hc
  clear hc
  go_enter Try.func25, Try.ntmps25
  go_wp2_with fail
  go_loopg [5] k (fun g s5 wr => ∃ i : Nat, i ≤ k ∧ g = k - i ∧ s5 = .int .i64 i ∧ Hid (allN (offB A B t) i = true) ∧ w = wr)
  case atStart => exact ⟨0, Nat.zero_le _, rfl, rfl, rfl, rfl⟩
  case round =>
    obtain ⟨i, hle, rfl, rfl, hA, rfl⟩ := hrel
    by_cases hlt : i < k
    · obtain rfl := ha (by omega)
      obtain ⟨h1, h2⟩ := HC.out i hlt
      have n1 : (i : Int) < (k : Int) := by omega
      have n2 : (0 : Int) ≤ (i : Int) := by omega
      obtain ⟨p, HP⟩ : ∃ p, Hid (p = A i) := ⟨_, rfl⟩
      rw [← HP.out] at h1
      obtain ⟨u, HU⟩ : ∃ u, Hid (u = B i) := ⟨_, rfl⟩
      rw [← HU.out] at h2
      have hno : p ≠ t ∨ u ≠ 0 → allN (offB A B t) (i + 1) = true := fun h => allN_step hA.out (offB_true (by rw [← HP.out, ← HU.out]; exact h))
      have NO := Lib.hid hno
      clear hno
      by_cases e0 : p = t
      · by_cases e1 : u = 0
        · have hv : Hid (thereB A B t k = true) := thereB_true hlt (by rw [← HP.out]; exact e0) (by rw [← HU.out]; exact e1)
          subst e0
          subst e1
          go_wp2_with fail
          go_ret
          exact ⟨ret_bool hv.out.symm, rfl⟩
        · have hA2 := Lib.hid (NO.out (.inr e1))
          subst e0
          have b1' : (u == 0) = false := by simp; exact e1
          clear NO e1
          go_wp2_with fail
          go_roundg (k - (i + 1))
          case measure => omega
          case rel => exact ⟨i + 1, by omega, rfl, by go_num, hA2.out, rfl⟩
      · have hA2 := Lib.hid (NO.out (.inl e0))
        have b0' : (p == t) = false := by simp; exact e0
        clear NO e0
        go_wp2_with fail
        go_roundg (k - (i + 1))
        case measure => omega
        case rel => exact ⟨i + 1, by omega, rfl, by go_num, hA2.out, rfl⟩
    · obtain rfl : i = k := by omega
      go_wp2_with fail
      go_ret
      exact ⟨ret_bool (thereB_false hA.out).symm, rfl⟩
end Go.Proofs.Ytlgpclnmonpkjaa
