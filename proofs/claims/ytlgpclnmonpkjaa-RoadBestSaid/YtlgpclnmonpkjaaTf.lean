/-
  Package road: towards.
-/
import Derived.Test.YtlgpclnmonpkjaaTe
namespace Go.Proofs.Ytlgpclnmonpkjaa
open Go.RowKit Go.Deep

set_option maxRecDepth 100000 in
set_option maxHeartbeats 4000000 in
theorem towards_any (w : World) (v : Value) (R : Road) (ok : R.Ok) (hT : TreeAt w v R) (s : Sp) (hs : R.spot s) (t : Nat) (ht : t < R.n) (hne : s ≠ (t, 0)) :
    Calls Try.prog 82 #[v, SpV s, .int .i64 t] w fun e w' => e = .returned (SpV (R.to s (t, 0))) ∧ Kept w w' := by
  have hT0 := hT
  obtain ⟨b0, o0, c0, b1, o1, c1, b2, o2, c2, hv, _, _, _⟩ := hT.open ok
  subst hv
  clear hT
  obtain ⟨p, u⟩ := s
  obtain ⟨e1, e2, e3⟩ := Road.to_eq ok hs ht hne
  have hp := hs.1
  have hd := Road.deep_le ok p hp
  have hle := Road.spot_le ok hs
  have hn := ok.max
  simp only at hp e1 e2 e3 hle
  have hm1 := (Road.meet_spec ok hp ht).1
  have E1 := Lib.hid e1
  have E2 := Lib.hid e2
  have E3 := Lib.hid e3
  clear e1 e2 e3
  have MC := Lib.hid (fun W (hW : TreeAt W (Value.agg #[.slice (some ⟨b0, o0, none⟩) R.n c0, .slice (some ⟨b1, o1, none⟩) R.n c1, .slice (some ⟨b2, o2, none⟩) R.n c2]) R) => meet_any W _ R ok hW p t hp ht)
  have AB := Lib.hid (fun W (hW : TreeAt W (Value.agg #[.slice (some ⟨b0, o0, none⟩) R.n c0, .slice (some ⟨b1, o1, none⟩) R.n c1, .slice (some ⟨b2, o2, none⟩) R.n c2]) R) => above_any W _ R ok hW (p, u) hs)
  have BL := Lib.hid (fun W (hW : TreeAt W (Value.agg #[.slice (some ⟨b0, o0, none⟩) R.n c0, .slice (some ⟨b1, o1, none⟩) R.n c1, .slice (some ⟨b2, o2, none⟩) R.n c2]) R) (h1 : R.top (p, 0) (t, 0) = R.deep p) (h2 : p ≠ t) => below_any W _ R ok hW p t hp ht h1 h2)
  obtain ⟨m, HM⟩ : ∃ m, Hid (m = R.meet p t) := ⟨_, rfl⟩
  rw [← HM.out] at MC E1 E2 E3 hm1
  clear HM
  obtain ⟨⟨d0, d1⟩, HD⟩ : ∃ d, Hid (d = R.to (p, u) (t, 0)) := ⟨_, rfl⟩
  rw [← HD.out] at E1 E2 E3 ⊢
  obtain ⟨⟨x0, x1⟩, HX⟩ : ∃ d, Hid (d = R.up (p, u)) := ⟨_, rfl⟩
  rw [← HX.out] at E1 AB
  obtain ⟨⟨z0, z1⟩, HZ⟩ : ∃ d, Hid (d = R.au (t, 0) (R.deep p + 1)) := ⟨_, rfl⟩
  rw [← HZ.out] at E3 BL
  clear HD HX HZ
  unfold SpV at AB BL ⊢
  simp only at AB BL ⊢
  obtain ⟨n0, HN0⟩ : ∃ n0, w.heap.size = n0 := ⟨_, rfl⟩
  obtain ⟨W1, hW1, hsz, y0, y1, y2, hK⟩ := newbox3 w n0 HN0 (.slice (some ⟨b0, o0, none⟩) R.n c0) (.slice (some ⟨b1, o1, none⟩) R.n c1) (.slice (some ⟨b2, o2, none⟩) R.n c2) 88
  obtain ⟨W2, hW2, hsz2, v0, v1, hK1⟩ := newbox2 W1 (n0 + 1) hsz (.int .i64 (p : Int)) (.int .i64 (u : Int)) 26
  have hrow := box2row W2 (n0 + 1 + 1) hsz2 (.int .i64 0) (.int .i64 0) 26
  obtain ⟨W3, hW3, hsz3, g0, g1, hK2⟩ := newbox2 W2 (n0 + 1 + 1) hsz2 (.int .i64 0) (.int .i64 0) 26
  rw [hW3] at hrow
  have a0 := (hK1.trans hK2).cellSome y0
  have a1 := (hK1.trans hK2).cellSome y1
  have a2 := (hK1.trans hK2).cellSome y2
  have f0 := hK2.cellSome v0
  have f1 := hK2.cellSome v1
  have hK3 := (hK.trans hK1).trans hK2
  have hT3 := hT0.kept hK3
  have hge : w.heap.size ≤ n0 + 1 + 1 := by omega
  clear y0 y1 y2 v0 v1 hK hK1 hK2 hT0 g0 g1
  have n3 : (m : Int) = (p : Int) ↔ m = p := by omega
  have n4 : ((m : Int) != (p : Int)) = !(decide (m = p)) := by
    by_cases e : m = p
    · subst e; simp
    · have : ¬ (m : Int) = (p : Int) := by omega
      simp [e, this]
  go_enter Try.func82, Try.ntmps82
  go_upto_region 1 with fail
  clear hW1 hW2 hW3 hsz hsz2 hsz3 HN0
  obtain ⟨n1, HN1⟩ : ∃ n1, Hid (n1 = n0 + 1) := ⟨_, rfl⟩
  obtain ⟨n2, HN2⟩ : ∃ n2, Hid (n2 = n0 + 1 + 1) := ⟨_, rfl⟩
  rw [← HN2.out] at hrow hge ⊢
  rw [← HN1.out] at f0 f1 ⊢
  go_cut [14] (fun v14 wx => v14 = .bool (!(decide (m = p))) ∧ Kept W3 wx)
  case first =>
    go_region_held3 (fun w' => w'.cell? ⟨n0, 0, none⟩ = some (.slice (some ⟨b0, o0, none⟩) R.n c0) ∧ w'.cell? ⟨n0, 1, none⟩ = some (.slice (some ⟨b1, o1, none⟩) R.n c1) ∧ w'.cell? ⟨n0, 2, none⟩ = some (.slice (some ⟨b2, o2, none⟩) R.n c2) ∧ w'.cell? ⟨n1, 0, none⟩ = some (.int .i64 p) ∧ w'.cell? ⟨n1, 1, none⟩ = some (.int .i64 u) ∧ Kept W3 w')
      (exact keep5 a0 a1 a2 f0 f1 (by repeat (first | assumption | exact Kept.refl _ | apply Kept.drew | apply Kept.drewN | apply Kept.alloc | refine Kept.trans ?_ (by assumption))))
      (first | (go_at_call 71; refine (MC.out _ (hT3.kept (by repeat (first | assumption | exact Kept.refl _ | apply Kept.drew | apply Kept.drewN | apply Kept.alloc | refine Kept.trans ?_ (by assumption))))).mono ?_; rintro e w' ⟨rfl, hk1⟩))
    all_goals
      go_wp2_with fail
      go_meet
      exact ⟨rfl, (by repeat (first | assumption | exact Kept.refl _ | apply Kept.drew | apply Kept.drewN | apply Kept.alloc | refine Kept.trans ?_ (by assumption)))⟩
  case rest =>
    obtain ⟨rfl, hK⟩ := hcut
    obtain ⟨h0, h1, h2, i0, i1, _⟩ := keep5 a0 a1 a2 f0 f1 hK
    have hr4 := hK.row hrow
    have hT4 := hT3.kept hK
    clear a0 a1 a2 f0 f1 MC hrow hT3
    by_cases e : m = p
    · subst e
      have e9 : (!(decide (m = m))) = false := by simp
      rw [e9]
      by_cases hu : u = 0
      · subst hu
        obtain ⟨g1, g2, g3⟩ := E3.out rfl rfl
        injection g1 with g4 g5
        subst g4
        subst g5
        have BL2 := Lib.hid (fun W hW => BL.out W hW g2 g3)
        clear E1 E2 E3 AB BL
        have hKw := hK3.trans hK
        go_wp2_with (first | (go_at_call 86; refine (BL2.out _ (hT4.kept (by repeat (first | assumption | exact Kept.refl _ | apply Kept.drew | apply Kept.drewN | apply Kept.alloc | refine Kept.trans ?_ (by assumption))))).mono ?_; rintro e w4 ⟨rfl, hk1⟩; obtain ⟨f0, f1, q0, q1, r0, r1, hKF⟩ := fin2a hr4 (show Kept _ w4 from (by repeat (first | assumption | exact Kept.refl _ | apply Kept.drew | apply Kept.drewN | apply Kept.alloc | refine Kept.trans ?_ (by assumption)))) (hKw.trans (show Kept _ w4 from (by repeat (first | assumption | exact Kept.refl _ | apply Kept.drew | apply Kept.drewN | apply Kept.alloc | refine Kept.trans ?_ (by assumption))))) hge (.int .i64 (d0 : Int)) (.int .i64 (d1 : Int))))
        exact bodyPost_ret (v := .agg #[.int .i64 (d0 : Int), .int .i64 (d1 : Int)]) (by simp [results, Try.results82, go_sem, r0, r1]) rfl ⟨rfl, hKF⟩
      · have g1 := E2.out rfl (by omega)
        injection g1 with g4 g5
        subst g4
        subst g5
        have hKw := hK3.trans hK
        have s1 : IntKind.i64.wrap ((u : Int) - 1) = (u : Int) - 1 := IntWalk.i64_in _ (by omega)
        have n5 : (0 : Int) < (u : Int) := by omega
        have e5 : ((u - 1 : Nat) : Int) = (u : Int) - 1 := by omega
        obtain ⟨f0, f1, q0, q1, r0, r1, hKF⟩ := fin2a hr4 (Kept.refl _) hKw hge (.int .i64 (d0 : Int)) (.int .i64 ((u : Int) - 1))
        clear E1 E2 E3 AB BL
        go_wp2_with fail
        exact bodyPost_ret (v := .agg #[.int .i64 (d0 : Int), .int .i64 ((u : Int) - 1)]) (by simp [results, Try.results82, go_sem, r0, r1]) rfl ⟨rfl, hKF⟩
    · have e9 : (!(decide (m = p))) = true := by simp [e]
      rw [e9]
      have g1 := E1.out e
      injection g1 with g4 g5
      subst g4
      subst g5
      have hKw := hK3.trans hK
      clear E1 E2 E3 BL
      go_wp2_with (first | (go_at_call 85; refine (AB.out _ (hT4.kept (by repeat (first | assumption | exact Kept.refl _ | apply Kept.drew | apply Kept.drewN | apply Kept.alloc | refine Kept.trans ?_ (by assumption))))).mono ?_; rintro e w4 ⟨rfl, hk1⟩; obtain ⟨f0, f1, q0, q1, r0, r1, hKF⟩ := fin2a hr4 (show Kept _ w4 from (by repeat (first | assumption | exact Kept.refl _ | apply Kept.drew | apply Kept.drewN | apply Kept.alloc | refine Kept.trans ?_ (by assumption)))) (hKw.trans (show Kept _ w4 from (by repeat (first | assumption | exact Kept.refl _ | apply Kept.drew | apply Kept.drewN | apply Kept.alloc | refine Kept.trans ?_ (by assumption))))) hge (.int .i64 (d0 : Int)) (.int .i64 (d1 : Int))))
      exact bodyPost_ret (v := .agg #[.int .i64 (d0 : Int), .int .i64 (d1 : Int)]) (by simp [results, Try.results82, go_sem, r0, r1]) rfl ⟨rfl, hKF⟩
end Go.Proofs.Ytlgpclnmonpkjaa
