/-
  Package road: holdsUp.
-/
import Derived.Test.YtlgpclnmonpkjaaTi
namespace Go.Proofs.Ytlgpclnmonpkjaa
open Go.RowKit Go.Deep

/-- is farrier o in the way of farrier i -/
def holdB (R : Road) (H : Nat → Sp) (t o i : Nat) : Bool := if H o = H i then decide (o < i) else decide (R.dist (H i) (H o) + R.dist (H o) (t, 0) = R.dist (H i) (t, 0))
theorem nat_beq2 (a b : Nat) : ((a : Int) == (b : Int)) = decide (a = b) := by
  by_cases e : a = b
  · subst e; simp
  · have : ¬ (a : Int) = (b : Int) := by omega
    simp [e, this]
set_option maxRecDepth 100000 in
set_option maxHeartbeats 4000000 in
theorem holdsUp_any (w : World) (v : Value) (R : Road) (ok : R.Ok) (k : Nat) (H : Nat → Sp) (t : Nat) (hG : GoingAt w v R k H t) (ht : t < R.n) (hk : k ≤ 100) (hS : ∀ i, i < k → R.spot (H i)) (o i : Nat) (ho2 : o < k) (hi : i < k) :
    Calls Try.prog 83 #[v, .int .i64 o, .int .i64 i] w fun e w' => e = .returned (.bool (holdB R H t o i)) ∧ Kept w w' := by
  have hG0 := hG
  obtain ⟨b0, o0, c0, b1, o1, c1, b2, o2, c2, hb, ho, hcap, rfl, hT, _, hc⟩ := hG.open ok (by omega)
  have DI := Lib.hid (fun W (hW : TreeAt W (Value.agg #[.slice (some ⟨b0, o0, none⟩) R.n c0, .slice (some ⟨b1, o1, none⟩) R.n c1, .slice (some ⟨b2, o2, none⟩) R.n c2]) R) => distance_any W _ R ok hW (H i) (H o) (hS i hi) (hS o ho2))
  have LF := Lib.hid (fun W (hW : GoingAt W (.agg #[.slice (some ⟨b0, o0, none⟩) R.n c0, .slice (some ⟨b1, o1, none⟩) R.n c1, .slice (some ⟨b2, o2, none⟩) R.n c2, .slice (some ⟨hb, ho, none⟩) k hcap, .int .i64 (t : Int)]) R k H t) (j : Nat) (hj : j < k) => left_any W _ R ok k H t hW ht j hj hk (hS j hj))
  have hd1 := Road.dist_le ok (hS i hi) (hS o ho2)
  have hd2 := Road.dist_le ok (hS o ho2) (Road.place_spot ht)
  obtain ⟨c1', c2'⟩ := hc i hi
  obtain ⟨c3', c4'⟩ := hc o ho2
  obtain ⟨d, HD⟩ : ∃ d, Hid (d = R.dist (H i) (H o)) := ⟨_, rfl⟩
  have hv : Hid (holdB R H t o i = if H o = H i then decide (o < i) else decide (d + R.dist (H o) (t, 0) = R.dist (H i) (t, 0))) := by show _ = _; rw [HD.out]; rfl
  rw [← HD.out] at DI hd1
  obtain ⟨⟨p, u⟩, HP⟩ : ∃ p, Hid (p = H i) := ⟨_, rfl⟩
  obtain ⟨⟨q, x⟩, HQ⟩ : ∃ p, Hid (p = H o) := ⟨_, rfl⟩
  rw [← HP.out] at DI c1' c2'
  rw [← HQ.out] at DI c3' c4'
  unfold SpV at DI
  simp only at DI c1' c2' c3' c4'
  obtain ⟨n0, HN0⟩ : ∃ n0, w.heap.size = n0 := ⟨_, rfl⟩
  obtain ⟨W1, hW1, hsz, q0, q1, q2, q3, q4, hK⟩ := newbox5 w n0 HN0 (.slice (some ⟨b0, o0, none⟩) R.n c0) (.slice (some ⟨b1, o1, none⟩) R.n c1) (.slice (some ⟨b2, o2, none⟩) R.n c2) (.slice (some ⟨hb, ho, none⟩) k hcap) (.int .i64 (t : Int)) 98
  have hT1 := hT.kept hK
  have hG1 := hG0.kept hK
  have r1 := hK.cellSome c1'
  have r2 := hK.cellSome c2'
  have r3 := hK.cellSome c3'
  have r4 := hK.cellSome c4'
  have n1 : (i : Int) < (k : Int) := by omega
  have n2 : (0 : Int) ≤ (i : Int) := by omega
  have n3 : (o : Int) < (k : Int) := by omega
  have n4 : (0 : Int) ≤ (o : Int) := by omega
  have s1 : IntKind.i64.wrap ((d : Int) + ((R.dist (H o) (t, 0) : Nat) : Int)) = ((d + R.dist (H o) (t, 0) : Nat) : Int) := by rw [show (d : Int) + ((R.dist (H o) (t, 0) : Nat) : Int) = ((d + R.dist (H o) (t, 0) : Nat) : Int) by omega]; exact IntWalk.i64_in _ (by omega)
  clear hc c1' c2' c3' c4' hT hG hG0
  by_cases e : (p, u) = (q, x)
  · injection e with e0 e1
    subst e0
    subst e1
    have hv2 : Hid (holdB R H t o i = decide (o < i)) := by show _ = _; rw [hv.out, if_pos (by rw [← HP.out, ← HQ.out])]
    have n5 : decide ((o : Int) < (i : Int)) = decide (o < i) := by simp
    clear hv DI LF s1
    go_enter Try.func83, Try.ntmps83
    go_wp2_with fail
    go_quiet (fail)
    go_wp2_with fail
    go_ret
    exact ⟨ret_bool (by rw [hv2.out]), hK.drewN _⟩
  · have hne : ¬ H o = H i := fun h => e (by rw [HP.out, HQ.out, h])
    rw [if_neg hne] at hv
    have ne : ¬ ((q : Int) = (p : Int) ∧ (x : Int) = (u : Int)) := by
      rintro ⟨h1, h2⟩
      exact e (by rw [show q = p by omega, show x = u by omega])
    have NE := Lib.hid ne
    clear ne e HP HQ hne HD
    by_cases e0 : (q : Int) = (p : Int)
    · have e1 : ¬ (x : Int) = (u : Int) := fun h => NE.out ⟨e0, h⟩
      have b0' : ((q : Int) == (p : Int)) = true := by simp [e0]
      have b1' : ((x : Int) == (u : Int)) = false := by simp; omega
      obtain rfl : q = p := by omega
      clear e0 b0'
      go_enter Try.func83, Try.ntmps83
      go_wp2_with fail
      go_quiet (fail)
      go_wp2_with fail
      obtain ⟨q0', q1', q2', q3', q4', r1', r2', r3', r4', _⟩ := keep9 q0 q1 q2 q3 q4 r1 r2 r3 r4 ((Kept.refl W1).drewN nq)
      have hT2 := hT1.kept ((Kept.refl W1).drewN nq)
      have hG2 := hG1.kept ((Kept.refl W1).drewN nq)
      have hK2 := hK.drewN nq
      generalize W1.drewN nq = W2 at *
      clear q0 q1 q2 q3 q4 r1 r2 r3 r4 hT1 hG1
      go_region_held3 (fun w' => w'.cell? ⟨n0, 0, none⟩ = some (.slice (some ⟨b0, o0, none⟩) R.n c0) ∧ w'.cell? ⟨n0, 1, none⟩ = some (.slice (some ⟨b1, o1, none⟩) R.n c1) ∧ w'.cell? ⟨n0, 2, none⟩ = some (.slice (some ⟨b2, o2, none⟩) R.n c2) ∧ w'.cell? ⟨n0, 3, none⟩ = some (.slice (some ⟨hb, ho, none⟩) k hcap) ∧ w'.cell? ⟨n0, 4, none⟩ = some (.int .i64 t) ∧ w'.cell? ⟨hb, ho + i * 2, none⟩ = some (.int .i64 q) ∧ w'.cell? ⟨hb, ho + i * 2 + 1, none⟩ = some (.int .i64 u) ∧ w'.cell? ⟨hb, ho + o * 2, none⟩ = some (.int .i64 q) ∧ w'.cell? ⟨hb, ho + o * 2 + 1, none⟩ = some (.int .i64 x) ∧ Kept W2 w')
        (exact keep9 q0' q1' q2' q3' q4' r1' r2' r3' r4' (by repeat (first | assumption | exact Kept.refl _ | apply Kept.drew | apply Kept.drewN | apply Kept.alloc | refine Kept.trans ?_ (by assumption))))
        (first | (go_at_call 48; refine (DI.out _ (hT2.kept (by repeat (first | assumption | exact Kept.refl _ | apply Kept.drew | apply Kept.drewN | apply Kept.alloc | refine Kept.trans ?_ (by assumption))))).mono ?_; rintro e w' ⟨rfl, hk1⟩) | (go_at_call 87; refine (LF.out _ (hG2.kept (by repeat (first | assumption | exact Kept.refl _ | apply Kept.drew | apply Kept.drewN | apply Kept.alloc | refine Kept.trans ?_ (by assumption)))) _ (by first | exact hi | exact ho2)).mono ?_; rintro e w' ⟨rfl, hk1⟩))
      all_goals
        go_wp2_with fail
        go_ret
        exact ⟨ret_bool (by rw [hv.out, ← nat_beq2, Int.natCast_add]), hK2.trans (by repeat (first | assumption | exact Kept.refl _ | apply Kept.drew | apply Kept.drewN | apply Kept.alloc | refine Kept.trans ?_ (by assumption)))⟩
    · have b0' : ((q : Int) == (p : Int)) = false := by simp; omega
      go_enter Try.func83, Try.ntmps83
      go_wp2_with fail
      go_quiet (fail)
      go_wp2_with fail
      obtain ⟨q0', q1', q2', q3', q4', r1', r2', r3', r4', _⟩ := keep9 q0 q1 q2 q3 q4 r1 r2 r3 r4 ((Kept.refl W1).drewN nq)
      have hT2 := hT1.kept ((Kept.refl W1).drewN nq)
      have hG2 := hG1.kept ((Kept.refl W1).drewN nq)
      have hK2 := hK.drewN nq
      generalize W1.drewN nq = W2 at *
      clear q0 q1 q2 q3 q4 r1 r2 r3 r4 hT1 hG1
      go_region_held3 (fun w' => w'.cell? ⟨n0, 0, none⟩ = some (.slice (some ⟨b0, o0, none⟩) R.n c0) ∧ w'.cell? ⟨n0, 1, none⟩ = some (.slice (some ⟨b1, o1, none⟩) R.n c1) ∧ w'.cell? ⟨n0, 2, none⟩ = some (.slice (some ⟨b2, o2, none⟩) R.n c2) ∧ w'.cell? ⟨n0, 3, none⟩ = some (.slice (some ⟨hb, ho, none⟩) k hcap) ∧ w'.cell? ⟨n0, 4, none⟩ = some (.int .i64 t) ∧ w'.cell? ⟨hb, ho + i * 2, none⟩ = some (.int .i64 p) ∧ w'.cell? ⟨hb, ho + i * 2 + 1, none⟩ = some (.int .i64 u) ∧ w'.cell? ⟨hb, ho + o * 2, none⟩ = some (.int .i64 q) ∧ w'.cell? ⟨hb, ho + o * 2 + 1, none⟩ = some (.int .i64 x) ∧ Kept W2 w')
        (exact keep9 q0' q1' q2' q3' q4' r1' r2' r3' r4' (by repeat (first | assumption | exact Kept.refl _ | apply Kept.drew | apply Kept.drewN | apply Kept.alloc | refine Kept.trans ?_ (by assumption))))
        (first | (go_at_call 48; refine (DI.out _ (hT2.kept (by repeat (first | assumption | exact Kept.refl _ | apply Kept.drew | apply Kept.drewN | apply Kept.alloc | refine Kept.trans ?_ (by assumption))))).mono ?_; rintro e w' ⟨rfl, hk1⟩) | (go_at_call 87; refine (LF.out _ (hG2.kept (by repeat (first | assumption | exact Kept.refl _ | apply Kept.drew | apply Kept.drewN | apply Kept.alloc | refine Kept.trans ?_ (by assumption)))) _ (by first | exact hi | exact ho2)).mono ?_; rintro e w' ⟨rfl, hk1⟩))
      all_goals
        go_wp2_with fail
        go_ret
        exact ⟨ret_bool (by rw [hv.out, ← nat_beq2, Int.natCast_add]), hK2.trans (by repeat (first | assumption | exact Kept.refl _ | apply Kept.drew | apply Kept.drewN | apply Kept.alloc | refine Kept.trans ?_ (by assumption)))⟩
end Go.Proofs.Ytlgpclnmonpkjaa
