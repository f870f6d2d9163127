/-
  The references' Before and Same.
-/
import Derived.Test.YtjjeoloifggdpaaVo
namespace Go.Proofs.Ytjjeoloifggdpaa
open Go.RowKit Go.Deep


set_option maxHeartbeats 1000000 in
theorem before_any (w : World) (va vb : Value) (na nb : Nat) (fa fb : Nat → Int) (ha : IntsAt w va na fa) (hb : IntsAt w vb nb fb) (hna : na ≤ 1000000) (hnb : nb ≤ 1000000) :
    Calls Try.prog 64 #[va, vb] w fun e w' => e = .returned (.bool (before na fa nb fb)) ∧ Quiet w w' := by
  obtain ⟨a, b, o, cap, rfl, ha, hc⟩ := ha
  obtain ⟨a2, b2, o2, cap2, rfl, ha2, hc2⟩ := hb
  unfold before
  go_enter Try.func64, Try.ntmps64
  go_wp2
  go_loopg [5] na (fun g i wr => ∃ k : Nat, k ≤ na ∧ k ≤ nb ∧ g = na - k ∧ i = .int .i64 k ∧ Hid (bef fa fb na nb (min na nb) 0 = bef fa fb na nb (min na nb - k) k) ∧ Quiet w wr)
  case atStart => exact ⟨0, Nat.zero_le _, Nat.zero_le _, rfl, rfl, rfl, Quiet.refl _⟩
  case round =>
    obtain ⟨k, hk, hk2, rfl, rfl, hH, hq⟩ := hrel
    by_cases hlt : k < na
    · by_cases hlt2 : k < nb
      · obtain rfl := ha (by omega)
        obtain rfl := ha2 (by omega)
        have h1 := hq.kept.cellSome (hc k hlt)
        have h2 := hq.kept.cellSome (hc2 k hlt2)
        have hs : bef fa fb na nb (min na nb - k) k = (if fa k = fb k then bef fa fb na nb (min na nb - (k + 1)) (k + 1) else decide (fa k < fb k)) := by
          rw [show min na nb - k = (min na nb - (k + 1)) + 1 by omega]; rfl
        have HS := Lib.hid hs
        clear hc ha hc2 ha2 hs
        go_wp2
        cases e1 : (fa k != fb k)
        · go_quiet (fail)
          go_wp2
          go_roundg (na - (k+1))
          case measure => omega
          case rel => exact ⟨k + 1, by omega, by omega, rfl, by go_num, by (show _ = _; rw [hH.out, HS.out, if_pos (by simpa using e1)]), by repeat (first | exact hq | apply Quiet.drewN | apply Quiet.drew)⟩
        · go_quiet (fail)
          go_wp2
          go_quiet (fail)
          go_wp2
          go_ret
          exact ⟨ret_bool (by rw [hH.out, HS.out, if_neg (by simpa using e1)]), by repeat (first | exact hq | apply Quiet.drewN | apply Quiet.drew)⟩
      · go_wp2
        go_ret
        exact ⟨ret_bool (by rw [hH.out, show min na nb - k = 0 by omega]; simp [bef]), hq⟩
    · go_wp2
      go_ret
      exact ⟨ret_bool (by rw [hH.out, show min na nb - k = 0 by omega]; simp [bef]), hq⟩

theorem same_any (w : World) (va vb : Value) (na nb : Nat) (fa fb : Nat → Int) (ha : IntsAt w va na fa) (hb : IntsAt w vb nb fb) (hna : na ≤ 1000000) (hnb : nb ≤ 1000000) :
    Calls Try.prog 40 #[va, vb] w fun e w' => e = .returned (.bool (same na fa nb fb)) ∧ Quiet w w' := by
  rw [← before_same]
  go_enter Try.func40, Try.ntmps40
  go_wp2_with fail
  refine (before_any _ _ _ na nb fa fb ha hb hna hnb).mono ?_
  rintro e w1 ⟨rfl, ⟨nq, rfl⟩⟩
  cases e1 : before na fa nb fb
  · go_wp2_with fail
    refine (before_any _ _ _ nb na fb fa (hb.kept ((Kept.refl _).drewN nq)) (ha.kept ((Kept.refl _).drewN nq)) hnb hna).mono ?_
    rintro e w2 ⟨rfl, ⟨nq2, rfl⟩⟩
    go_wp2
    go_ret
    exact ⟨ret_bool (by simp [e1]), nq + nq2, by simp⟩
  · go_wp2_with fail
    go_wp2
    go_ret
    exact ⟨ret_bool (by simp [e1]), nq, rfl⟩

end Go.Proofs.Ytjjeoloifggdpaa
