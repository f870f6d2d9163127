/-
  Package road: least where all calls are served; leastWith.
-/
import Derived.Test.YtlgpclnmonpkjaaTu
namespace Go.Proofs.Ytlgpclnmonpkjaa
open Go.RowKit Go.Deep

set_option maxRecDepth 100000 in
set_option maxHeartbeats 4000000 in
theorem least_end (w : World) (v : Value) (R : Road) (ok : R.Ok) (k m : Nat) (C : Nat → Nat) (s0 : Nat) (S : Nat → Nat) (M : Nat) (hP : PlansAt w v R k m C s0 S M) (P : Nat → Nat) :
    Calls Try.prog 59 #[v, StgV m P] w fun e w' => e = .returned (.int .i64 ((0 : Nat) : Int)) ∧ Kept w w' := by
  obtain ⟨b0, o0, c0, b1, o1, c1, b2, o2, c2, ca, cb, co, ccap, rfl, _, hca, hc⟩ := hP.open ok
  unfold StgV
  obtain ⟨n0, HN0⟩ : ∃ n0, w.heap.size = n0 := ⟨_, rfl⟩
  obtain ⟨W1, hW1, hsz, q0, q1, q2, q3, q4, q5, q6, q7, q8, q9, hK⟩ := newbox10 w n0 HN0 (.slice (some ⟨b0, o0, none⟩) R.n c0) (.slice (some ⟨b1, o1, none⟩) R.n c1) (.slice (some ⟨b2, o2, none⟩) R.n c2) (.slice ca m ccap) (.int .i64 (k : Int)) (.int .i64 (s0 : Int)) (.int .i64 (S 0 : Int)) (.int .i64 (S 1 : Int)) (.int .i64 (S 2 : Int)) (.map (some M)) 106
  obtain ⟨W2, hW2, hsz2, y0, y1, y2, y3, hK1⟩ := newbox4 W1 (n0 + 1) hsz (.int .i64 (m : Int)) (.int .i64 ((P 0 : Nat) : Int)) (.int .i64 ((P 1 : Nat) : Int)) (.int .i64 ((P 2 : Nat) : Int)) 103
  have z3 := hK1.cellSome q3
  have n1 : ((m : Int) == (m : Int)) = true := by simp
  have hK2 := hK.trans hK1
  clear q0 q1 q2 q3 q4 q5 q6 q7 q8 q9 hc hP
  go_enter Try.func59, Try.ntmps59
  go_wp2_with fail
  go_ret
  exact ⟨rfl, hK2⟩
set_option maxRecDepth 100000 in
set_option maxHeartbeats 4000000 in
theorem leastWith_any (w : World) (v : Value) (R : Road) (ok : R.Ok) (k m : Nat) (C : Nat → Nat) (s0 : Nat) (S : Nat → Nat) (M : Nat) (hP : PlansAt w v R k m C s0 S M) (hm : m ≤ 100) (hC : ∀ i, i < m → C i < R.n) (s : Nat) (P : Nat → Nat) (h : Nat) (hs : s < m) (hh : h < 3) (hPh : P h < R.n) (L : Nat) (hL : L ≤ 1000000000)
    (LE : ∀ W, PlansAt W v R k m C s0 S M → Calls Try.prog 59 #[v, StgV (s + 1) (sentP C s P h)] W fun e w' => e = .returned (.int .i64 ((L : Nat) : Int)) ∧ Kept W w') :
    Calls Try.prog 61 #[v, StgV s P, .int .i64 h] w fun e w' => e = .returned (.int .i64 ((wayP R C s P h + L : Nat) : Int)) ∧ Kept w w' := by
  have hP0 := hP
  obtain ⟨b0, o0, c0, b1, o1, c1, b2, o2, c2, ca, cb, co, ccap, rfl, _, hca, hc⟩ := hP.open ok
  have LE2 := Lib.hid LE
  have WY := Lib.hid (fun W (hW : PlansAt W (.agg #[.slice (some ⟨b0, o0, none⟩) R.n c0, .slice (some ⟨b1, o1, none⟩) R.n c1, .slice (some ⟨b2, o2, none⟩) R.n c2, .slice ca m ccap, .int .i64 (k : Int), .int .i64 (s0 : Int), .int .i64 (S 0 : Int), .int .i64 (S 1 : Int), .int .i64 (S 2 : Int), .map (some M)]) R k m C s0 S M) => way_any W _ R ok k m C s0 S M hW hm hC s P h hs hh hPh)
  have SN := Lib.hid (fun W (hW : PlansAt W (.agg #[.slice (some ⟨b0, o0, none⟩) R.n c0, .slice (some ⟨b1, o1, none⟩) R.n c1, .slice (some ⟨b2, o2, none⟩) R.n c2, .slice ca m ccap, .int .i64 (k : Int), .int .i64 (s0 : Int), .int .i64 (S 0 : Int), .int .i64 (S 1 : Int), .int .i64 (S 2 : Int), .map (some M)]) R k m C s0 S M) => sent_any W _ R ok k m C s0 S M hW hm s P h hs hh)
  have hwl : wayP R C s P h ≤ 360 := Road.dist_le ok (Road.place_spot hPh) (Road.place_spot (hC s hs))
  obtain ⟨d, HD⟩ : ∃ d, Hid (d = wayP R C s P h) := ⟨_, rfl⟩
  rw [← HD.out] at WY hwl ⊢
  obtain ⟨Q, HQ⟩ : ∃ Q, Hid (Q = sentP C s P h) := ⟨_, rfl⟩
  rw [← HQ.out] at SN LE2
  unfold StgV at WY SN LE2 ⊢
  obtain ⟨n0, HN0⟩ : ∃ n0, w.heap.size = n0 := ⟨_, rfl⟩
  obtain ⟨W1, hW1, hsz, q0, q1, q2, q3, q4, q5, q6, q7, q8, q9, hK⟩ := newbox10 w n0 HN0 (.slice (some ⟨b0, o0, none⟩) R.n c0) (.slice (some ⟨b1, o1, none⟩) R.n c1) (.slice (some ⟨b2, o2, none⟩) R.n c2) (.slice ca m ccap) (.int .i64 (k : Int)) (.int .i64 (s0 : Int)) (.int .i64 (S 0 : Int)) (.int .i64 (S 1 : Int)) (.int .i64 (S 2 : Int)) (.map (some M)) 106
  obtain ⟨W2, hW2, hsz2, y0, y1, y2, y3, hK1⟩ := newbox4 W1 (n0 + 1) hsz (.int .i64 (s : Int)) (.int .i64 ((P 0 : Nat) : Int)) (.int .i64 ((P 1 : Nat) : Int)) (.int .i64 ((P 2 : Nat) : Int)) 103
  obtain ⟨z0, z1, z2, z3, z4, z5, z6, z7, z8, z9, _⟩ := keep10 q0 q1 q2 q3 q4 q5 q6 q7 q8 q9 hK1
  have hK2 := hK.trans hK1
  have hP2 := hP0.kept hK2
  have s1 : IntKind.i64.wrap ((d : Int) + (L : Int)) = (d : Int) + (L : Int) := IntWalk.i64_in _ (by omega)
  clear q0 q1 q2 q3 q4 q5 q6 q7 q8 q9 hc hP hP0 LE hL HD HQ
  go_enter Try.func61, Try.ntmps61
  go_upto_region 1 with fail
  clear hW1 hW2 hsz hsz2 HN0
  go_region_held3 (fun w' => w'.cell? ⟨n0, 0, none⟩ = some (.slice (some ⟨b0, o0, none⟩) R.n c0) ∧ w'.cell? ⟨n0, 1, none⟩ = some (.slice (some ⟨b1, o1, none⟩) R.n c1) ∧ w'.cell? ⟨n0, 2, none⟩ = some (.slice (some ⟨b2, o2, none⟩) R.n c2) ∧ w'.cell? ⟨n0, 3, none⟩ = some (.slice ca m ccap) ∧ w'.cell? ⟨n0, 4, none⟩ = some (.int .i64 (k : Int)) ∧ w'.cell? ⟨n0, 5, none⟩ = some (.int .i64 (s0 : Int)) ∧ w'.cell? ⟨n0, 6, none⟩ = some (.int .i64 (S 0 : Int)) ∧ w'.cell? ⟨n0, 7, none⟩ = some (.int .i64 (S 1 : Int)) ∧ w'.cell? ⟨n0, 8, none⟩ = some (.int .i64 (S 2 : Int)) ∧ w'.cell? ⟨n0, 9, none⟩ = some (.map (some M)) ∧ w'.cell? ⟨n0 + 1, 0, none⟩ = some (.int .i64 s) ∧ w'.cell? ⟨n0 + 1, 1, none⟩ = some (.int .i64 ((P 0 : Nat) : Int)) ∧ w'.cell? ⟨n0 + 1, 2, none⟩ = some (.int .i64 ((P 1 : Nat) : Int)) ∧ w'.cell? ⟨n0 + 1, 3, none⟩ = some (.int .i64 ((P 2 : Nat) : Int)) ∧ Kept W2 w')
    (exact keep14 z0 z1 z2 z3 z4 z5 z6 z7 z8 z9 y0 y1 y2 y3 (by repeat (first | assumption | exact Kept.refl _ | apply Kept.drew | apply Kept.drewN | apply Kept.alloc | refine Kept.trans ?_ (by assumption))))
    (first | (go_at_call 63; refine (WY.out _ (hP2.kept (by repeat (first | assumption | exact Kept.refl _ | apply Kept.drew | apply Kept.drewN | apply Kept.alloc | refine Kept.trans ?_ (by assumption))))).mono ?_; rintro e w' ⟨rfl, hk1⟩) | (go_at_call 78; refine (SN.out _ (hP2.kept (by repeat (first | assumption | exact Kept.refl _ | apply Kept.drew | apply Kept.drewN | apply Kept.alloc | refine Kept.trans ?_ (by assumption))))).mono ?_; rintro e w' ⟨rfl, hk1⟩) | (go_at_call 59; refine (LE2.out _ (hP2.kept (by repeat (first | assumption | exact Kept.refl _ | apply Kept.drew | apply Kept.drewN | apply Kept.alloc | refine Kept.trans ?_ (by assumption))))).mono ?_; rintro e w' ⟨rfl, hk1⟩))
  all_goals
    go_wp2_with fail
    go_ret
    exact ⟨ret_int (by rw [Int.natCast_add]), hK2.trans (by repeat (first | assumption | exact Kept.refl _ | apply Kept.drew | apply Kept.drewN | apply Kept.alloc | refine Kept.trans ?_ (by assumption)))⟩
end Go.Proofs.Ytlgpclnmonpkjaa
