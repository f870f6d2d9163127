/-
  Package road: distance.
-/
import Derived.Test.YtlgpclnmonpkjaaTb
import Derived.Laws.Cover1
namespace Go.Proofs.Ytlgpclnmonpkjaa
open Go.RowKit Go.Deep

set_option maxRecDepth 100000 in
set_option maxHeartbeats 4000000 in
theorem distance_any (w : World) (v : Value) (R : Road) (ok : R.Ok) (hT : TreeAt w v R) (s t : Sp) (hs : R.spot s) (ht : R.spot t) :
    Calls Try.prog 48 #[v, SpV s, SpV t] w fun e w' => e = .returned (.int .i64 ((R.dist s t : Nat) : Int)) ∧ Kept w w' := by
  have hT0 := hT
  obtain ⟨b0, o0, c0, b1, o1, c1, b2, o2, c2, hv, _, _, k2⟩ := hT.open ok
  subst hv
  obtain ⟨tv, HTV⟩ : ∃ tv : Value, Hid (tv = .agg #[.slice (some ⟨b0, o0, none⟩) R.n c0, .slice (some ⟨b1, o1, none⟩) R.n c1, .slice (some ⟨b2, o2, none⟩) R.n c2]) := ⟨_, rfl⟩
  rw [← HTV.out] at hT0
  obtain ⟨p, u⟩ := s
  obtain ⟨q, x⟩ := t
  have hp := hs.1
  have hq := ht.1
  simp only at hp hq
  have hn := ok.max
  have MC := Lib.hid (fun W (hW : TreeAt W tv R) => meet_any W tv R ok hW p q hp hq)
  have DS := Lib.hid (fun W (hW : TreeAt W tv R) (p u : Nat) (hs : R.spot (p, u)) => depth_any W tv R ok hW (p, u) hs)
  have htop := Lib.hid (Road.top_prog ok hs ht)
  have htl := Road.top_le ok hs ht
  have hdl := Road.dep_le ok hs
  have hdl2 := Road.dep_le ok ht
  obtain ⟨hm1, _, hm3⟩ := Road.meet_spec ok hp hq
  have HC := Lib.hid k2
  unfold SpV at DS ⊢
  simp only at DS ⊢
  rw [HTV.out] at MC DS hT0
  obtain ⟨tp, HTP⟩ : ∃ tp, Hid (tp = R.top (p, u) (q, x)) := ⟨_, rfl⟩
  have hD : Hid (((R.dist (p, u) (q, x) : Nat) : Int) = ((R.dep (p, u) : Nat) : Int) + ((R.dep (q, x) : Nat) : Int) - 2 * (tp : Int)) := by
    show _ = _
    unfold Road.dist
    rw [← HTP.out]
    rw [← HTP.out] at htl
    omega
  rw [← HTP.out] at htop htl
  have hm := k2 _ hm1
  rw [hm3] at hm
  rw [← hm3] at htop
  rw [← hm3] at hm
  obtain ⟨m, HM⟩ : ∃ m, Hid (m = R.meet p q) := ⟨_, rfl⟩
  rw [← HM.out] at MC hm htop hm1
  obtain ⟨dm, HDM⟩ : ∃ dm, Hid (dm = R.deep m) := ⟨_, rfl⟩
  have hdm := Road.deep_le ok m hm1
  rw [← HDM.out] at hm htop hdm
  have htop2 : Hid (min (min (dm : Int) ((R.dep (p, u) : Nat) : Int)) ((R.dep (q, x) : Nat) : Int) = (tp : Int)) := by show _ = _; rw [htop.out]; omega
  clear k2 hT HTP HM HDM htop hm3
  obtain ⟨n0, HN0⟩ : ∃ n0, w.heap.size = n0 := ⟨_, rfl⟩
  obtain ⟨W1, hW1, hsz, y0, y1, y2, hK⟩ := newbox3 w n0 HN0 (.slice (some ⟨b0, o0, none⟩) R.n c0) (.slice (some ⟨b1, o1, none⟩) R.n c1) (.slice (some ⟨b2, o2, none⟩) R.n c2) 88
  obtain ⟨W2, hW2, hsz2, z0, z1, hK1⟩ := newbox2 W1 (n0 + 1) hsz (.int .i64 (p : Int)) (.int .i64 (u : Int)) 26
  obtain ⟨W3, hW3, hsz3, g0, g1, hK2⟩ := newbox2 W2 (n0 + 1 + 1) hsz2 (.int .i64 (q : Int)) (.int .i64 (x : Int)) 26
  have a0 := (hK1.trans hK2).cellSome y0
  have a1 := (hK1.trans hK2).cellSome y1
  have a2 := (hK1.trans hK2).cellSome y2
  have d0 := hK2.cellSome z0
  have d1 := hK2.cellSome z1
  have hK3 := (hK.trans hK1).trans hK2
  have hT3 := hT0.kept hK3
  have hm9 := hK3.cellSome hm
  clear y0 y1 y2 z0 z1 hK hK1 hK2 hT0
  have hmin : ∀ (ts : Array TypeId) (ty : TypeId) (W : World), (Builtin.min_ ts ty #[.int .i64 (dm : Int), .int .i64 ((R.dep (p, u) : Nat) : Int), .int .i64 ((R.dep (q, x) : Nat) : Int)]).run Try.prog W = .ok (.int .i64 (tp : Int)) W := fun ts ty W => by
    rw [run_min_int3, ← htop2.out]
    congr 2
    split <;> split <;> omega
  go_enter Try.func48, Try.ntmps48
  go_upto_region 1 with fail
  clear hW1 hW2 hW3 hsz hsz2 hsz3 HN0
  obtain ⟨n1, HN1⟩ : ∃ n1, Hid (n1 = n0 + 1) := ⟨_, rfl⟩
  obtain ⟨n2, HN2⟩ : ∃ n2, Hid (n2 = n0 + 1 + 1) := ⟨_, rfl⟩
  try rw [← HN2.out] at g0 g1 ⊢
  rw [← HN1.out] at d0 d1 ⊢
  go_outline
  go_cut [7] (fun v7 wx => v7 = .int .i64 tp ∧ Kept W3 wx)
  case first =>
    go_region_held3 (fun w' => w'.cell? ⟨n0, 0, none⟩ = some (.slice (some ⟨b0, o0, none⟩) R.n c0) ∧ w'.cell? ⟨n0, 1, none⟩ = some (.slice (some ⟨b1, o1, none⟩) R.n c1) ∧ w'.cell? ⟨n0, 2, none⟩ = some (.slice (some ⟨b2, o2, none⟩) R.n c2) ∧ w'.cell? ⟨n1, 0, none⟩ = some (.int .i64 p) ∧ w'.cell? ⟨n1, 1, none⟩ = some (.int .i64 u) ∧ w'.cell? ⟨n2, 0, none⟩ = some (.int .i64 q) ∧ w'.cell? ⟨n2, 1, none⟩ = some (.int .i64 x) ∧ w'.cell? ⟨b2, o2 + m, none⟩ = some (.int .i64 dm) ∧ Kept W3 w')
      (exact keep8 a0 a1 a2 d0 d1 g0 g1 hm9 (by repeat (first | assumption | exact Kept.refl _ | apply Kept.drew | apply Kept.drewN | apply Kept.alloc | refine Kept.trans ?_ (by assumption))))
      (first | (go_at_call 71; refine (MC.out _ (hT3.kept (by repeat (first | assumption | exact Kept.refl _ | apply Kept.drew | apply Kept.drewN | apply Kept.alloc | refine Kept.trans ?_ (by assumption))))).mono ?_; rintro e w' ⟨rfl, hk1⟩) | (go_at_call 72; refine (DS.out _ (hT3.kept (by repeat (first | assumption | exact Kept.refl _ | apply Kept.drew | apply Kept.drewN | apply Kept.alloc | refine Kept.trans ?_ (by assumption)))) _ _ (by first | exact hs | exact ht)).mono ?_; rintro e w' ⟨rfl, hk1⟩))
    all_goals
      go_wp2_with fail
      go_meet
      exact ⟨rfl, (by repeat (first | assumption | exact Kept.refl _ | apply Kept.drew | apply Kept.drewN | apply Kept.alloc | refine Kept.trans ?_ (by assumption)))⟩
  case rest =>
    obtain ⟨rfl, hK⟩ := hcut
    obtain ⟨h0, h1, h2, e0, e1, f0, f1, _⟩ := keep7 a0 a1 a2 d0 d1 g0 g1 hK
    clear a0 a1 a2 d0 d1 g0 g1 hm9 MC hmin
    have s1 : IntKind.i64.wrap (((R.dep (p, u) : Nat) : Int) + ((R.dep (q, x) : Nat) : Int)) = ((R.dep (p, u) : Nat) : Int) + ((R.dep (q, x) : Nat) : Int) := IntWalk.i64_in _ (by omega)
    have s2 : IntKind.i64.wrap (2 * (tp : Int)) = 2 * (tp : Int) := IntWalk.i64_in _ (by omega)
    have s3 : IntKind.i64.wrap (((R.dep (p, u) : Nat) : Int) + ((R.dep (q, x) : Nat) : Int) - 2 * (tp : Int)) = ((R.dep (p, u) : Nat) : Int) + ((R.dep (q, x) : Nat) : Int) - 2 * (tp : Int) := IntWalk.i64_in _ (by omega)
    have hT4 := hT3.kept hK
    go_wp2_with fail
    go_region_held3 (fun w' => w'.cell? ⟨n0, 0, none⟩ = some (.slice (some ⟨b0, o0, none⟩) R.n c0) ∧ w'.cell? ⟨n0, 1, none⟩ = some (.slice (some ⟨b1, o1, none⟩) R.n c1) ∧ w'.cell? ⟨n0, 2, none⟩ = some (.slice (some ⟨b2, o2, none⟩) R.n c2) ∧ w'.cell? ⟨n1, 0, none⟩ = some (.int .i64 p) ∧ w'.cell? ⟨n1, 1, none⟩ = some (.int .i64 u) ∧ w'.cell? ⟨n2, 0, none⟩ = some (.int .i64 q) ∧ w'.cell? ⟨n2, 1, none⟩ = some (.int .i64 x) ∧ Kept wc w')
      (exact keep7 h0 h1 h2 e0 e1 f0 f1 (by repeat (first | assumption | exact Kept.refl _ | apply Kept.drew | apply Kept.drewN | apply Kept.alloc | refine Kept.trans ?_ (by assumption))))
      (first | (go_at_call 72; refine (DS.out _ (hT4.kept (by repeat (first | assumption | exact Kept.refl _ | apply Kept.drew | apply Kept.drewN | apply Kept.alloc | refine Kept.trans ?_ (by assumption)))) _ _ (by first | exact hs | exact ht)).mono ?_; rintro e w' ⟨rfl, hk1⟩))
    all_goals
      go_wp2_with fail
      go_ret
      exact ⟨ret_int hD.out.symm, hK3.trans (hK.trans (by repeat (first | assumption | exact Kept.refl _ | apply Kept.drew | apply Kept.drewN | apply Kept.alloc | refine Kept.trans ?_ (by assumption))))⟩
end Go.Proofs.Ytlgpclnmonpkjaa
