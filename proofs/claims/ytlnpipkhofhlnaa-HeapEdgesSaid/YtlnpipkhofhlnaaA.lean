/-
  The reference's functions that only read: what each returns.
-/
import Derived.Test.YtlnpipkhofhlnaaChecked
import Derived.Test.YtlnpipkhofhlnaaRep
import Derived.Outline
import Derived.Deep.QuietTactic
import Derived.BigQuiet
import Derived.Lib.Hide
namespace Go.Proofs.Ytlnpipkhofhlnaa
open Go.RowKit

def deg (A B : Nat → Int) (m : Nat) (v : Int) : Nat := cnt (fun i => A i == v || B i == v) m
def btw (A B : Nat → Int) (m : Nat) (v u : Int) : Nat := cnt (fun i => (A i == v && B i == u) || (A i == u && B i == v)) m

theorem in_any (w : World) (v lo hi : Int) : Calls Try.prog 37 #[.int .i64 v, .int .i64 lo, .int .i64 hi] w fun e w' => e = .returned (.bool (decide (lo ≤ v) && decide (v ≤ hi))) ∧ w = w' := by
  go_enter Try.func37, Try.ntmps37
  go_wp2
  all_goals
    go_ret
    exact ⟨ret_bool (by rw [Bool.eq_iff_iff]; simp; omega), rfl⟩

set_option maxHeartbeats 1000000 in
theorem between_any (w : World) (ev : Value) (n : Nat) (A B : Nat → Int) (v u : Int) (hE : PairsAt w ev n A B) (hn : n ≤ 1000000) :
    Calls Try.prog 58 #[ev, .int .i64 v, .int .i64 u] w fun e w' => e = .returned (.int .i64 (btw A B n v u)) ∧ w = w' := by
  obtain ⟨a, b, o, cap, rfl, ha, hc⟩ := hE
  unfold btw
  go_enter Try.func58, Try.ntmps58
  go_wp2
  go_loopg [7, 8] n (fun g m i wr => ∃ k : Nat, k ≤ n ∧ g = n - k ∧ i = .int .i64 k ∧ m = .int .i64 (cnt (fun i => (A i == v && B i == u) || (A i == u && B i == v)) k) ∧ w = wr)
  case atStart => exact ⟨0, Nat.zero_le _, rfl, rfl, rfl, rfl⟩
  case round =>
    obtain ⟨k, hk, rfl, rfl, rfl, rfl⟩ := hrel
    by_cases hlt : k < n
    · obtain rfl := ha (by omega)
      obtain ⟨h1, h2⟩ := hc k hlt
      have hl := cnt_le (fun i => (A i == v && B i == u) || (A i == u && B i == v)) k
      clear hc ha
      cases e1 : (A k == v) <;> cases e2 : (B k == u) <;> cases e3 : (A k == u) <;> cases e4 : (B k == v)
      all_goals
        go_wp2
        go_roundg (n - (k+1))
        case measure => omega
        case rel => exact ⟨k + 1, by omega, rfl, by go_num, by (simp only [cnt, e1, e2, e3, e4]; go_num), rfl⟩
    · go_wp2
      go_ret
      exact ⟨ret_int (by rw [show k = n by omega]), rfl⟩

set_option maxHeartbeats 1000000 in
theorem degree_any (w : World) (ev : Value) (n : Nat) (A B : Nat → Int) (v : Int) (hE : PairsAt w ev n A B) (hn : n ≤ 1000000) :
    Calls Try.prog 25 #[ev, .int .i64 v] w fun e w' => e = .returned (.int .i64 (deg A B n v)) ∧ w = w' := by
  obtain ⟨a, b, o, cap, rfl, ha, hc⟩ := hE
  unfold deg
  go_enter Try.func25, Try.ntmps25
  go_wp2
  go_loopg [5, 6] n (fun g m i wr => ∃ k : Nat, k ≤ n ∧ g = n - k ∧ i = .int .i64 k ∧ m = .int .i64 (cnt (fun i => A i == v || B i == v) k) ∧ w = wr)
  case atStart => exact ⟨0, Nat.zero_le _, rfl, rfl, rfl, rfl⟩
  case round =>
    obtain ⟨k, hk, rfl, rfl, rfl, rfl⟩ := hrel
    by_cases hlt : k < n
    · obtain rfl := ha (by omega)
      obtain ⟨h1, h2⟩ := hc k hlt
      have hl := cnt_le (fun i => A i == v || B i == v) k
      clear hc ha
      cases e1 : (A k == v) <;> cases e4 : (B k == v)
      all_goals
        go_wp2
        go_roundg (n - (k+1))
        case measure => omega
        case rel => exact ⟨k + 1, by omega, rfl, by go_num, by (simp only [cnt, e1, e4]; go_num), rfl⟩
    · go_wp2
      go_ret
      exact ⟨ret_int (by rw [show k = n by omega]), rfl⟩

theorem deg_le (A B : Nat → Int) (m : Nat) (v : Int) : deg A B m v ≤ m := cnt_le _ _
theorem btw_le (A B : Nat → Int) (m : Nat) (v u : Int) : btw A B m v u ≤ m := cnt_le _ _

set_option maxHeartbeats 1000000 in
theorem before_any (w : World) (va vb : Value) (na nb : Nat) (fa fb : Nat → Int) (ha : IntsAt w va na fa) (hb : IntsAt w vb nb fb) (hna : na ≤ 1000000) (hnb : nb ≤ 1000000) :
    Calls Try.prog 47 #[va, vb] w fun e w' => e = .returned (.bool (before na fa nb fb)) ∧ Quiet w w' := by
  obtain ⟨a, b, o, cap, rfl, ha, hc⟩ := ha
  obtain ⟨a2, b2, o2, cap2, rfl, ha2, hc2⟩ := hb
  unfold before
  go_enter Try.func47, Try.ntmps47
  go_wp2
  go_loopg [5] na (fun g i wr => ∃ k : Nat, k ≤ na ∧ k ≤ nb ∧ g = na - k ∧ i = .int .i64 k ∧ Hid (bef fa fb na nb (min na nb) 0 = bef fa fb na nb (min na nb - k) k) ∧ Quiet w wr)
  case atStart => exact ⟨0, Nat.zero_le _, Nat.zero_le _, rfl, rfl, rfl, Quiet.refl _⟩
  case round =>
    obtain ⟨k, hk, hk2, rfl, rfl, hH, hq⟩ := hrel
    by_cases hlt : k < na
    · by_cases hlt2 : k < nb
      · obtain rfl := ha (by omega)
        obtain rfl := ha2 (by omega)
        have h1 := hq.kept.cellSome (hc k hlt)
        have h2 := hq.kept.cellSome (hc2 k hlt2)
        have hs : bef fa fb na nb (min na nb - k) k = (if fa k = fb k then bef fa fb na nb (min na nb - (k + 1)) (k + 1) else decide (fa k < fb k)) := by
          rw [show min na nb - k = (min na nb - (k + 1)) + 1 by omega]; rfl
        have HS := Lib.hid hs
        clear hc ha hc2 ha2 hs
        go_wp2
        cases e1 : (fa k != fb k)
        · go_quiet (fail)
          go_wp2
          go_roundg (na - (k+1))
          case measure => omega
          case rel => exact ⟨k + 1, by omega, by omega, rfl, by go_num, by (show _ = _; rw [hH.out, HS.out, if_pos (by simpa using e1)]), by repeat (first | exact hq | apply Quiet.drewN | apply Quiet.drew)⟩
        · go_quiet (fail)
          go_wp2
          go_quiet (fail)
          go_wp2
          go_ret
          exact ⟨ret_bool (by rw [hH.out, HS.out, if_neg (by simpa using e1)]), by repeat (first | exact hq | apply Quiet.drewN | apply Quiet.drew)⟩
      · go_wp2
        go_ret
        exact ⟨ret_bool (by rw [hH.out, show min na nb - k = 0 by omega]; simp [bef]), hq⟩
    · go_wp2
      go_ret
      exact ⟨ret_bool (by rw [hH.out, show min na nb - k = 0 by omega]; simp [bef]), hq⟩

theorem same_any (w : World) (va vb : Value) (na nb : Nat) (fa fb : Nat → Int) (ha : IntsAt w va na fa) (hb : IntsAt w vb nb fb) (hna : na ≤ 1000000) (hnb : nb ≤ 1000000) :
    Calls Try.prog 18 #[va, vb] w fun e w' => e = .returned (.bool (same na fa nb fb)) ∧ Quiet w w' := by
  rw [← before_same]
  go_enter Try.func18, Try.ntmps18
  go_wp2_with fail
  refine (before_any _ _ _ na nb fa fb ha hb hna hnb).mono ?_
  rintro e w1 ⟨rfl, ⟨nq, rfl⟩⟩
  cases e1 : before na fa nb fb
  · go_wp2_with fail
    refine (before_any _ _ _ nb na fb fa (hb.kept ((Kept.refl _).drewN nq)) (ha.kept ((Kept.refl _).drewN nq)) hnb hna).mono ?_
    rintro e w2 ⟨rfl, ⟨nq2, rfl⟩⟩
    go_wp2
    go_ret
    exact ⟨ret_bool (by simp [e1]), nq + nq2, by simp⟩
  · go_wp2_with fail
    go_wp2
    go_ret
    exact ⟨ret_bool (by simp [e1]), nq, rfl⟩

set_option maxHeartbeats 1000000 in
theorem settled_any (w : World) (ev lv : Value) (m : Nat) (A B : Nat → Int) (n : Nat) (f : Nat → Int) (hE : PairsAt w ev m A B) (hL : IntsAt w lv n f) (hm : m ≤ 1000000) (hn : n ≤ 1000000) :
    Calls Try.prog 59 #[ev, lv] w fun e w' => e = .returned (.bool (allN (fun i => decide (f i < deg A B m ((i : Int) + 1))) n)) ∧ Quiet w w' := by
  obtain ⟨a, b, o, cap, rfl, ha, hc⟩ := hL
  go_enter Try.func59, Try.ntmps59
  go_wp2
  go_loopg [5] n (fun g i wr => ∃ k : Nat, k ≤ n ∧ g = n - k ∧ i = .int .i64 k ∧ Hid (allN (fun i => decide (f i < deg A B m ((i : Int) + 1))) k = true) ∧ Quiet w wr)
  case atStart => exact ⟨0, Nat.zero_le _, rfl, rfl, rfl, Quiet.refl _⟩
  case round =>
    obtain ⟨k, hk, rfl, rfl, hH, hq⟩ := hrel
    by_cases hlt : k < n
    · obtain rfl := ha (by omega)
      have h1 := hq.kept.cellSome (hc k hlt)
      have hE' := hE.kept hq.kept
      clear hc ha
      have hd := deg_le A B m ((k : Int) + 1)
      by_cases e1 : f k < deg A B m ((k : Int) + 1)
      · have e1' : ((deg A B m ((k : Int) + 1) : Nat) : Int) ≤ f k ↔ False := by simp; omega
        go_wp2
        have hw : IntKind.i64.wrap ((k : Int) + 1) = (k : Int) + 1 := IntWalk.i64_in _ (by omega)
        go_quiet ((go_at_call 25; exact quietS (degree_any _ _ m A B _ (hE'.dN _) hm)))
        go_wp2
        go_roundg (n - (k+1))
        case measure => omega
        case rel => exact ⟨k + 1, by omega, rfl, by go_num, allN_step hH.out (by simp; omega), by repeat (first | exact hq | apply Quiet.drewN | apply Quiet.drew)⟩
      · go_wp2
        have hw : IntKind.i64.wrap ((k : Int) + 1) = (k : Int) + 1 := IntWalk.i64_in _ (by omega)
        go_quiet ((go_at_call 25; exact quietS (degree_any _ _ m A B _ (hE'.dN _) hm)))
        go_wp2
        go_ret
        exact ⟨ret_bool (by rw [allN_false hlt (by simp; omega)]), by repeat (first | exact hq | apply Quiet.drewN | apply Quiet.drew)⟩
    · go_wp2
      go_ret
      exact ⟨ret_bool (by rw [show n = k by omega]; exact hH.out.symm), hq⟩

set_option maxHeartbeats 1000000 in
theorem heaps_any (w : World) (lv : Value) (N least : Int) (n : Nat) (f : Nat → Int) (hL : IntsAt w lv n f) (hn : n ≤ 1000000) (hN : -1000000 ≤ N) (hN2 : N ≤ 1000000) :
    Calls Try.prog 29 #[.int .i64 N, lv, .int .i64 least] w fun e w' => e = .returned (.bool (allN (fun i => decide (least ≤ f i) && decide (f i ≤ 1000)) n && decide ((n : Int) = N - 1))) ∧ Quiet w w' := by
  obtain ⟨a, b, o, cap, rfl, ha, hc⟩ := hL
  go_enter Try.func29, Try.ntmps29
  go_wp2
  go_loopg [7] n (fun g i wr => ∃ k : Nat, k ≤ n ∧ g = n - k ∧ i = .int .i64 k ∧ Hid (allN (fun i => decide (least ≤ f i) && decide (f i ≤ 1000)) k = true) ∧ wr = w)
  case atStart => exact ⟨0, Nat.zero_le _, rfl, rfl, rfl, rfl⟩
  case round =>
    obtain ⟨k, hk, rfl, rfl, hH, rfl⟩ := hrel
    by_cases hlt : k < n
    · obtain rfl := ha (by omega)
      have h1 := hc k hlt
      clear hc ha
      cases e1 : (decide (least ≤ f k) && decide (f k ≤ 1000))
      all_goals
        go_wp2_with (go_at_call 37; refine (in_any _ _ _ _).mono ?_; rintro e w' ⟨rfl, rfl⟩)
      · go_ret
        exact ⟨ret_bool (by rw [allN_false hlt e1]; simp), 0, rfl⟩
      · go_roundg (n - (k+1))
        case measure => omega
        case rel => exact ⟨k + 1, by omega, rfl, by go_num, allN_step hH.out e1, rfl⟩
    · have e1 : ((n : Int) == N - 1) = decide ((n : Int) = N - 1) := by rw [Bool.eq_iff_iff]; simp
      obtain rfl : k = n := by omega
      have h2 := hH.out
      go_wp2
      go_ret
      exact ⟨ret_bool (by rw [h2]; simp), 0, rfl⟩

end Go.Proofs.Ytlnpipkhofhlnaa
