/-
  Package road: mayGo.
-/
import Derived.Test.YtlgpclnmonpkjaaTj
namespace Go.Proofs.Ytlgpclnmonpkjaa
open Go.RowKit Go.Deep

/-- is farrier i not held up -/
def mayB (R : Road) (H : Nat → Sp) (t k i : Nat) : Bool := allN (fun o => !holdB R H t o i) k
set_option maxRecDepth 100000 in
set_option maxHeartbeats 4000000 in
theorem mayGo_any (w : World) (v : Value) (R : Road) (ok : R.Ok) (k : Nat) (H : Nat → Sp) (t : Nat) (hG : GoingAt w v R k H t) (ht : t < R.n) (hk : k ≤ 100) (hS : ∀ i, i < k → R.spot (H i)) (i : Nat) (hi : i < k) :
    Calls Try.prog 76 #[v, .int .i64 i] w fun e w' => e = .returned (.bool (mayB R H t k i)) ∧ Kept w w' := by
  have hG0 := hG
  obtain ⟨b0, o0, c0, b1, o1, c1, b2, o2, c2, hb, ho, hcap, rfl, hT, _, hc⟩ := hG.open ok (by omega)
  have HU := Lib.hid (fun W (hW : GoingAt W (.agg #[.slice (some ⟨b0, o0, none⟩) R.n c0, .slice (some ⟨b1, o1, none⟩) R.n c1, .slice (some ⟨b2, o2, none⟩) R.n c2, .slice (some ⟨hb, ho, none⟩) k hcap, .int .i64 (t : Int)]) R k H t) (o : Nat) (hj : o < k) => holdsUp_any W _ R ok k H t hW ht hk hS o i hj hi)
  obtain ⟨n0, HN0⟩ : ∃ n0, w.heap.size = n0 := ⟨_, rfl⟩
  obtain ⟨W1, hW1, hsz, q0, q1, q2, q3, q4, hK⟩ := newbox5 w n0 HN0 (.slice (some ⟨b0, o0, none⟩) R.n c0) (.slice (some ⟨b1, o1, none⟩) R.n c1) (.slice (some ⟨b2, o2, none⟩) R.n c2) (.slice (some ⟨hb, ho, none⟩) k hcap) (.int .i64 (t : Int)) 98
  have hG1 := hG0.kept hK
  clear hc hT hG hG0
  go_enter Try.func76, Try.ntmps76
  go_wp2_with fail
  clear hW1 hsz HN0
  go_loopg [9] k (fun g s9 wr => ∃ o : Nat, o ≤ k ∧ g = k - o ∧ s9 = .int .i64 o ∧ Hid (allN (fun o => !holdB R H t o i) o = true) ∧ Kept W1 wr)
  case atStart => exact ⟨0, Nat.zero_le _, rfl, rfl, rfl, Kept.refl _⟩
  case round =>
    obtain ⟨o, hle, rfl, rfl, hA, hK2⟩ := hrel
    by_cases hlt : o < k
    · have HU2 := Lib.hid (fun W hW => HU.out W hW o hlt)
      have hG2 := hG1.kept hK2
      obtain ⟨z0, z1, z2, z3, z4, _⟩ := keep5 q0 q1 q2 q3 q4 hK2
      have n1 : (o : Int) < (k : Int) := by omega
      obtain ⟨b, HB⟩ : ∃ b, Hid (b = holdB R H t o i) := ⟨_, rfl⟩
      rw [← HB.out] at HU2
      clear q0 q1 q2 q3 q4 HU hG1
      cases b with
      | true =>
        have hv : Hid (mayB R H t k i = false) := allN_false hlt (by rw [← HB.out]; rfl)
        go_wp2_with (first | (go_at_call 83; refine (HU2.out _ hG2).mono ?_; rintro e w1 ⟨rfl, hk1⟩))
        go_ret
        exact ⟨ret_bool (by rw [hv.out]), (hK.trans hK2).trans hk1⟩
      | false =>
        have hA2 : Hid (allN (fun o => !holdB R H t o i) (o + 1) = true) := allN_step hA.out (by rw [← HB.out]; rfl)
        go_wp2_with (first | (go_at_call 83; refine (HU2.out _ hG2).mono ?_; rintro e w1 ⟨rfl, hk1⟩))
        go_roundg (k - (o + 1))
        case measure => omega
        case rel => exact ⟨o + 1, by omega, rfl, by go_num, hA2.out, hK2.trans hk1⟩
    · obtain rfl : o = k := by omega
      go_wp2_with fail
      go_ret
      exact ⟨ret_bool hA.out.symm, hK.trans hK2⟩
end Go.Proofs.Ytlgpclnmonpkjaa
