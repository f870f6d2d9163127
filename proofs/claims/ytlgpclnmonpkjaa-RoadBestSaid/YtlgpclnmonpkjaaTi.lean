/-
  Package road: isThere, left.
-/
import Derived.Test.YtlgpclnmonpkjaaTc
import Derived.Test.YtlgpclnmonpkjaaTh
namespace Go.Proofs.Ytlgpclnmonpkjaa
open Go.RowKit Go.Deep

/-- farriers on their way to the place t -/
def GoingAt (w : World) (v : Value) (R : Road) (k : Nat) (H : Nat → Sp) (t : Nat) : Prop :=
  ∃ x y z hv, v = .agg #[x, y, z, hv, .int .i64 (t : Int)] ∧ TreeAt w (.agg #[x, y, z]) R ∧ SpsAt w hv k H
theorem GoingAt.kept {w w' : World} {v : Value} {R : Road} {k : Nat} {H : Nat → Sp} {t : Nat} (h : GoingAt w v R k H t) (kk : Kept w w') : GoingAt w' v R k H t := by
  obtain ⟨x, y, z, hv, e, h1, h2⟩ := h
  exact ⟨x, y, z, hv, e, h1.kept kk, h2.kept kk⟩
theorem GoingAt.open {w : World} {v : Value} {R : Road} {k : Nat} {H : Nat → Sp} {t : Nat} (h : GoingAt w v R k H t) (ok : R.Ok) (hk : 1 ≤ k) : ∃ b0 o0 c0 b1 o1 c1 b2 o2 c2 hb ho hcap : Nat,
    v = .agg #[.slice (some ⟨b0, o0, none⟩) R.n c0, .slice (some ⟨b1, o1, none⟩) R.n c1, .slice (some ⟨b2, o2, none⟩) R.n c2, .slice (some ⟨hb, ho, none⟩) k hcap, .int .i64 (t : Int)] ∧
    TreeAt w (Value.agg #[.slice (some ⟨b0, o0, none⟩) R.n c0, .slice (some ⟨b1, o1, none⟩) R.n c1, .slice (some ⟨b2, o2, none⟩) R.n c2]) R ∧ SpsAt w (.slice (some ⟨hb, ho, none⟩) k hcap) k H ∧ (∀ i, i < k → w.cell? ⟨hb, ho + i * 2, none⟩ = some (.int .i64 (((H i).1 : Nat) : Int)) ∧ w.cell? ⟨hb, ho + i * 2 + 1, none⟩ = some (.int .i64 (((H i).2 : Nat) : Int))) := by
  obtain ⟨x, y, z, hv, e, h1, h2⟩ := h
  have h3 := h2
  obtain ⟨a, hb, ho, hcap, rfl, ha, hc⟩ := h2
  obtain rfl := ha (by omega)
  obtain ⟨b0, o0, c0, b1, o1, c1, b2, o2, c2, e2, _⟩ := h1.open ok
  injection e2 with e2
  injection e2 with e2
  injection e2 with e3 e2
  injection e2 with e4 e2
  injection e2 with e5 e2
  subst e3
  subst e4
  subst e5
  exact ⟨b0, o0, c0, b1, o1, c1, b2, o2, c2, hb, ho, hcap, e, h1, h3, hc⟩
set_option maxRecDepth 100000 in
set_option maxHeartbeats 2000000 in
theorem isThere_any (w : World) (v : Value) (R : Road) (k : Nat) (H : Nat → Sp) (t : Nat) (hG : GoingAt w v R k H t) (hk : k ≤ 100) :
    Calls Try.prog 53 #[v] w fun e w' => e = .returned (.bool (hasSp H (t, 0) k)) ∧ Kept w w' := by
  obtain ⟨x, y, z, hv, rfl, hT, hS⟩ := hG
  have CT := Lib.hid (fun W (hW : SpsAt W hv k H) => contains_any W hv k H (t, 0) hW hk)
  obtain ⟨x0, x1, x2, rfl⟩ : ∃ a n c, x = .slice a n c := by
    obtain ⟨_, _, _, e, ⟨a, _, _, cap, e2, _⟩, _⟩ := hT
    injection e with e
    injection e with e
    injection e with e3 e
    exact ⟨a, _, cap, e3.trans e2⟩
  obtain ⟨y0, y1, y2, rfl⟩ : ∃ a n c, y = .slice a n c := by
    obtain ⟨_, _, _, e, _, ⟨a, _, _, cap, e2, _⟩, _⟩ := hT
    injection e with e
    injection e with e
    injection e with e3 e
    injection e with e4 e
    exact ⟨a, _, cap, e4.trans e2⟩
  obtain ⟨z0, z1, z2, rfl⟩ : ∃ a n c, z = .slice a n c := by
    obtain ⟨_, _, _, e, _, _, ⟨a, _, _, cap, e2, _⟩⟩ := hT
    injection e with e
    injection e with e
    injection e with e3 e
    injection e with e4 e
    injection e with e5 e
    exact ⟨a, _, cap, e5.trans e2⟩
  obtain ⟨h0, h1, h2, rfl⟩ : ∃ a n c, hv = .slice a n c := by
    obtain ⟨a, _, _, cap, e, _⟩ := hS
    exact ⟨a, k, cap, e⟩
  unfold SpV at CT
  simp only at CT
  obtain ⟨n0, HN0⟩ : ∃ n0, w.heap.size = n0 := ⟨_, rfl⟩
  obtain ⟨W1, hW1, hsz, q0, q1, q2, q3, q4, hK⟩ := newbox5 w n0 HN0 (.slice x0 x1 x2) (.slice y0 y1 y2) (.slice z0 z1 z2) (.slice h0 h1 h2) (.int .i64 (t : Int)) 98
  have hS1 := hS.kept hK
  clear hT hS
  go_enter Try.func53, Try.ntmps53
  go_wp2_with (first | (go_at_call 74; refine (CT.out _ hS1).mono ?_; rintro e w1 ⟨rfl, hk1⟩))
  go_ret
  exact ⟨rfl, hK.trans hk1⟩
set_option maxRecDepth 100000 in
set_option maxHeartbeats 4000000 in
theorem left_any (w : World) (v : Value) (R : Road) (ok : R.Ok) (k : Nat) (H : Nat → Sp) (t : Nat) (hG : GoingAt w v R k H t) (ht : t < R.n) (i : Nat) (hi : i < k) (hk : k ≤ 100) (hs : R.spot (H i)) :
    Calls Try.prog 87 #[v, .int .i64 i] w fun e w' => e = .returned (.int .i64 ((R.dist (H i) (t, 0) : Nat) : Int)) ∧ Kept w w' := by
  obtain ⟨b0, o0, c0, b1, o1, c1, b2, o2, c2, hb, ho, hcap, rfl, hT, _, hc⟩ := hG.open ok (by omega)
  have DI := Lib.hid (fun W (hW : TreeAt W (Value.agg #[.slice (some ⟨b0, o0, none⟩) R.n c0, .slice (some ⟨b1, o1, none⟩) R.n c1, .slice (some ⟨b2, o2, none⟩) R.n c2]) R) => distance_any W _ R ok hW (H i) (t, 0) hs (Road.place_spot ht))
  obtain ⟨c1', c2'⟩ := hc i hi
  obtain ⟨d, HD⟩ : ∃ d, Hid (d = R.dist (H i) (t, 0)) := ⟨_, rfl⟩
  rw [← HD.out] at DI ⊢
  obtain ⟨⟨p, u⟩, HP⟩ : ∃ p, Hid (p = H i) := ⟨_, rfl⟩
  rw [← HP.out] at DI c1' c2'
  unfold SpV at DI
  simp only at DI c1' c2'
  obtain ⟨n0, HN0⟩ : ∃ n0, w.heap.size = n0 := ⟨_, rfl⟩
  obtain ⟨W1, hW1, hsz, q0, q1, q2, q3, q4, hK⟩ := newbox5 w n0 HN0 (.slice (some ⟨b0, o0, none⟩) R.n c0) (.slice (some ⟨b1, o1, none⟩) R.n c1) (.slice (some ⟨b2, o2, none⟩) R.n c2) (.slice (some ⟨hb, ho, none⟩) k hcap) (.int .i64 (t : Int)) 98
  have hT1 := hT.kept hK
  have r1 := hK.cellSome c1'
  have r2 := hK.cellSome c2'
  have n1 : (i : Int) < (k : Int) := by omega
  have n2 : (0 : Int) ≤ (i : Int) := by omega
  clear hc c1' c2' hT hG HD HP
  go_enter Try.func87, Try.ntmps87
  go_upto_region 1 with fail
  go_region_held3 (fun w' => w'.cell? ⟨n0, 0, none⟩ = some (.slice (some ⟨b0, o0, none⟩) R.n c0) ∧ w'.cell? ⟨n0, 1, none⟩ = some (.slice (some ⟨b1, o1, none⟩) R.n c1) ∧ w'.cell? ⟨n0, 2, none⟩ = some (.slice (some ⟨b2, o2, none⟩) R.n c2) ∧ w'.cell? ⟨n0, 3, none⟩ = some (.slice (some ⟨hb, ho, none⟩) k hcap) ∧ w'.cell? ⟨n0, 4, none⟩ = some (.int .i64 t) ∧ w'.cell? ⟨hb, ho + i * 2, none⟩ = some (.int .i64 p) ∧ w'.cell? ⟨hb, ho + i * 2 + 1, none⟩ = some (.int .i64 u) ∧ Kept W1 w')
    (exact keep7 q0 q1 q2 q3 q4 r1 r2 (by repeat (first | assumption | exact Kept.refl _ | apply Kept.drew | apply Kept.drewN | apply Kept.alloc | refine Kept.trans ?_ (by assumption))))
    (first | (go_at_call 48; refine (DI.out _ (hT1.kept (by repeat (first | assumption | exact Kept.refl _ | apply Kept.drew | apply Kept.drewN | apply Kept.alloc | refine Kept.trans ?_ (by assumption))))).mono ?_; rintro e w' ⟨rfl, hk1⟩))
  all_goals
    go_wp2_with fail
    go_ret
    exact ⟨rfl, hK.trans (by repeat (first | assumption | exact Kept.refl _ | apply Kept.drew | apply Kept.drewN | apply Kept.alloc | refine Kept.trans ?_ (by assumption)))⟩
end Go.Proofs.Ytlgpclnmonpkjaa
