/-
  Package road: areHands, areCalls.
-/
import Derived.Test.YtlgpclnmonpkjaaTg
import Derived.Test.YtlgpclnmonpkjaaTh
namespace Go.Proofs.Ytlgpclnmonpkjaa
open Go.RowKit Go.Deep

def handsOk (R : Road) (k : Nat) (A B : Nat → Int) : Bool := allN (fun i => R.isSp (A i) (B i)) k && (decide (1 ≤ k) && decide (k ≤ 3))
def callsOk (R : Road) (m : Nat) (f : Nat → Int) : Bool := allN (fun i => decide (0 ≤ f i) && decide (f i < R.n)) m && decide (m ≤ 12)
set_option maxRecDepth 100000 in
set_option maxHeartbeats 4000000 in
theorem areHands_any (w : World) (v hv : Value) (R : Road) (ok : R.Ok) (hT : TreeAt w v R) (k : Nat) (A B : Nat → Int) (hP : PairsAt w hv k A B) (hk : k ≤ 1000000000) :
    Calls Try.prog 66 #[v, hv] w fun e w' => e = .returned (.bool (handsOk R k A B)) ∧ Kept w w' := by
  have hT0 := hT
  obtain ⟨b0, o0, c0, b1, o1, c1, b2, o2, c2, rfl, _, _, _⟩ := hT.open ok
  obtain ⟨a, hb, ho, hcap, rfl, ha, hc⟩ := hP
  have IS := Lib.hid (fun W (hW : TreeAt W (Value.agg #[.slice (some ⟨b0, o0, none⟩) R.n c0, .slice (some ⟨b1, o1, none⟩) R.n c1, .slice (some ⟨b2, o2, none⟩) R.n c2]) R) (p u : Int) => isSpot_any W _ R ok hW p u)
  obtain ⟨n0, HN0⟩ : ∃ n0, w.heap.size = n0 := ⟨_, rfl⟩
  obtain ⟨W1, hW1, hsz, q0, q1, q2, hK⟩ := newbox3 w n0 HN0 (.slice (some ⟨b0, o0, none⟩) R.n c0) (.slice (some ⟨b1, o1, none⟩) R.n c1) (.slice (some ⟨b2, o2, none⟩) R.n c2) 88
  have HC := Lib.hid hc
  have hT1 := hT0.kept hK
  clear hc hT0 hT
  go_enter Try.func66, Try.ntmps66
  go_wp2_with fail
  clear hW1 hsz HN0
  go_loopg [9] k (fun g s9 wr => ∃ i : Nat, i ≤ k ∧ g = k - i ∧ s9 = .int .i64 i ∧ Hid (allN (fun i => R.isSp (A i) (B i)) i = true) ∧ Kept W1 wr)
  case atStart => exact ⟨0, Nat.zero_le _, rfl, rfl, rfl, Kept.refl _⟩
  case round =>
    obtain ⟨i, hle, rfl, rfl, hA, hK2⟩ := hrel
    by_cases hlt : i < k
    · obtain rfl := ha (by omega)
      obtain ⟨c1', c2'⟩ := HC.out i hlt
      have h1 := (hK.trans hK2).cellSome c1'
      have h2 := (hK.trans hK2).cellSome c2'
      obtain ⟨z0, z1, z2, _⟩ := keep3 q0 q1 q2 hK2
      have n1 : (i : Int) < (k : Int) := by omega
      have n2 : (0 : Int) ≤ (i : Int) := by omega
      obtain ⟨p, HP⟩ : ∃ p, Hid (p = A i) := ⟨_, rfl⟩
      obtain ⟨u, HU⟩ : ∃ u, Hid (u = B i) := ⟨_, rfl⟩
      rw [← HP.out] at h1
      rw [← HU.out] at h2
      obtain ⟨W3, hW3, hsz3, y0, y1, hK3⟩ := newbox2 wr wr.heap.size rfl (.int .i64 p) (.int .i64 u) 26
      obtain ⟨v0, v1, v2, _⟩ := keep3 z0 z1 z2 hK3
      have hT3 := hT1.kept (hK2.trans hK3)
      have IS2 := Lib.hid (IS.out W3 hT3 p u)
      obtain ⟨b, HB⟩ : ∃ b, Hid (b = R.isSp p u) := ⟨_, rfl⟩
      rw [← HB.out] at IS2
      clear IS HC c1' c2' hT1 hT3
      cases b with
      | true =>
        have hA2 : Hid (allN (fun i => R.isSp (A i) (B i)) (i + 1) = true) := allN_step hA.out (by rw [← HP.out, ← HU.out]; exact HB.out.symm)
        go_wp2_with (first | (go_at_call 47; refine IS2.out.mono ?_; rintro e w5 ⟨rfl, hk5⟩))
        go_roundg (k - (i + 1))
        case measure => omega
        case rel => exact ⟨i + 1, by omega, rfl, by go_num, hA2.out, (hK2.trans hK3).trans hk5⟩
      | false =>
        have hv : Hid (handsOk R k A B = false) := by
          show _ = _
          unfold handsOk
          rw [allN_false hlt (by rw [← HP.out, ← HU.out]; exact HB.out.symm)]
          rfl
        go_wp2_with (first | (go_at_call 47; refine IS2.out.mono ?_; rintro e w5 ⟨rfl, hk5⟩))
        go_ret
        exact ⟨ret_bool (by rw [hv.out]), ((hK.trans hK2).trans hK3).trans hk5⟩
    · obtain rfl : i = k := by omega
      have hv : Hid (handsOk R i A B = (decide (1 ≤ i) && decide (i ≤ 3))) := by show _ = _; unfold handsOk; rw [hA.out]; rfl
      by_cases e1 : 1 ≤ i
      · have d1 : (1 : Int) ≤ (i : Int) := by omega
        have d2 : decide ((i : Int) ≤ 3) = decide (i ≤ 3) := by by_cases e : i ≤ 3; rw [decide_eq_true e, decide_eq_true (by omega)]; rw [decide_eq_false e, decide_eq_false (by omega)]
        have D2 := Lib.hid d2
        clear d2
        go_wp2_with fail
        go_ret
        exact ⟨ret_bool (by rw [hv.out, decide_eq_true e1, ← D2.out]; rfl), hK.trans hK2⟩
      · have d1 : ¬ (1 : Int) ≤ (i : Int) := by omega
        go_wp2_with fail
        go_ret
        exact ⟨ret_bool (by rw [hv.out, decide_eq_false e1]; rfl), hK.trans hK2⟩
set_option maxRecDepth 100000 in
set_option maxHeartbeats 4000000 in
theorem areCalls_any (w : World) (v hv : Value) (R : Road) (ok : R.Ok) (hT : TreeAt w v R) (k : Nat) (A : Nat → Int) (hP : IntsAt w hv k A) (hk : k ≤ 1000000000) :
    Calls Try.prog 73 #[v, hv] w fun e w' => e = .returned (.bool (callsOk R k A)) ∧ Kept w w' := by
  obtain ⟨b0, o0, c0, b1, o1, c1, b2, o2, c2, rfl, _, _, _⟩ := hT.open ok
  obtain ⟨a, hb, ho, hcap, rfl, ha, hc⟩ := hP
  have IS := Lib.hid (fun W (p : Int) => isPlace_any W (some ⟨b0, o0, none⟩) (some ⟨b1, o1, none⟩) (some ⟨b2, o2, none⟩) R.n c0 R.n c1 R.n c2 p)
  obtain ⟨n0, HN0⟩ : ∃ n0, w.heap.size = n0 := ⟨_, rfl⟩
  obtain ⟨W1, hW1, hsz, q0, q1, q2, hK⟩ := newbox3 w n0 HN0 (.slice (some ⟨b0, o0, none⟩) R.n c0) (.slice (some ⟨b1, o1, none⟩) R.n c1) (.slice (some ⟨b2, o2, none⟩) R.n c2) 88
  have HC := Lib.hid hc
  clear hc hT
  go_enter Try.func73, Try.ntmps73
  go_wp2_with fail
  clear hW1 hsz HN0
  go_loopg [9] k (fun g s9 wr => ∃ i : Nat, i ≤ k ∧ g = k - i ∧ s9 = .int .i64 i ∧ Hid (allN (fun i => decide (0 ≤ A i) && decide (A i < R.n)) i = true) ∧ Kept W1 wr)
  case atStart => exact ⟨0, Nat.zero_le _, rfl, rfl, rfl, Kept.refl _⟩
  case round =>
    obtain ⟨i, hle, rfl, rfl, hA, hK2⟩ := hrel
    by_cases hlt : i < k
    · obtain rfl := ha (by omega)
      have h1 := (hK.trans hK2).cellSome (HC.out i hlt)
      obtain ⟨z0, z1, z2, _⟩ := keep3 q0 q1 q2 hK2
      have n1 : (i : Int) < (k : Int) := by omega
      have n2 : (0 : Int) ≤ (i : Int) := by omega
      obtain ⟨p, HP⟩ : ∃ p, Hid (p = A i) := ⟨_, rfl⟩
      rw [← HP.out] at h1
      have IS2 := Lib.hid (fun W => IS.out W p)
      obtain ⟨b, HB⟩ : ∃ b, Hid (b = (decide (0 ≤ p) && decide (p < R.n))) := ⟨_, rfl⟩
      rw [← HB.out] at IS2
      clear IS HC
      cases b with
      | true =>
        have hA2 : Hid (allN (fun i => decide (0 ≤ A i) && decide (A i < R.n)) (i + 1) = true) := allN_step hA.out (by rw [← HP.out]; exact HB.out.symm)
        go_wp2_with (first | (go_at_call 70; refine (IS2.out _).mono ?_; rintro e w5 ⟨rfl, hk5⟩))
        go_roundg (k - (i + 1))
        case measure => omega
        case rel => exact ⟨i + 1, by omega, rfl, by go_num, hA2.out, hK2.trans hk5⟩
      | false =>
        have hv : Hid (callsOk R k A = false) := by
          show _ = _
          unfold callsOk
          rw [allN_false hlt (by rw [← HP.out]; exact HB.out.symm)]
          rfl
        go_wp2_with (first | (go_at_call 70; refine (IS2.out _).mono ?_; rintro e w5 ⟨rfl, hk5⟩))
        go_ret
        exact ⟨ret_bool (by rw [hv.out]), (hK.trans hK2).trans hk5⟩
    · obtain rfl : i = k := by omega
      have hv : Hid (callsOk R i A = decide (i ≤ 12)) := by show _ = _; unfold callsOk; rw [hA.out]; rfl
      have d2 : decide ((i : Int) ≤ 12) = decide (i ≤ 12) := by by_cases e : i ≤ 12; rw [decide_eq_true e, decide_eq_true (by omega)]; rw [decide_eq_false e, decide_eq_false (by omega)]
      have D2 := Lib.hid d2
      clear d2
      go_wp2_with fail
      go_ret
      exact ⟨ret_bool (by rw [hv.out, ← D2.out]), hK.trans hK2⟩
end Go.Proofs.Ytlgpclnmonpkjaa
