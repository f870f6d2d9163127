/-
  Package road: plans and stages; way.
-/
import Derived.Test.YtlgpclnmonpkjaaTs
namespace Go.Proofs.Ytlgpclnmonpkjaa
open Go.RowKit Go.Deep

theorem newbox10 (w : World) (n : Nat) (hn : w.heap.size = n) (a0 a1 a2 a3 a4 a5 a6 a7 a8 a9 : Value) (t : TypeId) : ∃ W, w.alloc (.cells #[a0, a1, a2, a3, a4, a5, a6, a7, a8, a9] t) = W ∧ W.heap.size = n + 1 ∧ W.cell? ⟨n, 0, none⟩ = some a0 ∧ W.cell? ⟨n, 1, none⟩ = some a1 ∧ W.cell? ⟨n, 2, none⟩ = some a2 ∧ W.cell? ⟨n, 3, none⟩ = some a3 ∧ W.cell? ⟨n, 4, none⟩ = some a4 ∧ W.cell? ⟨n, 5, none⟩ = some a5 ∧ W.cell? ⟨n, 6, none⟩ = some a6 ∧ W.cell? ⟨n, 7, none⟩ = some a7 ∧ W.cell? ⟨n, 8, none⟩ = some a8 ∧ W.cell? ⟨n, 9, none⟩ = some a9 ∧ Kept w W := by
  subst hn
  refine ⟨_, rfl, by simp, ?_, ?_, ?_, ?_, ?_, ?_, ?_, ?_, ?_, ?_, (Kept.refl w).alloc _⟩ <;> (unfold World.cell?; dsimp only; rw [blk_alloc_new]; rfl)
theorem newbox4 (w : World) (n : Nat) (hn : w.heap.size = n) (a0 a1 a2 a3 : Value) (t : TypeId) : ∃ W, w.alloc (.cells #[a0, a1, a2, a3] t) = W ∧ W.heap.size = n + 1 ∧ W.cell? ⟨n, 0, none⟩ = some a0 ∧ W.cell? ⟨n, 1, none⟩ = some a1 ∧ W.cell? ⟨n, 2, none⟩ = some a2 ∧ W.cell? ⟨n, 3, none⟩ = some a3 ∧ Kept w W := by
  subst hn
  refine ⟨_, rfl, by simp, ?_, ?_, ?_, ?_, (Kept.refl w).alloc _⟩ <;> (unfold World.cell?; dsimp only; rw [blk_alloc_new]; rfl)
def bx4 (a0 a1 a2 a3 : Value) : Nat → Value := fun i => if i = 0 then a0 else if i = 1 then a1 else if i = 2 then a2 else a3
theorem box4row (w : World) (n : Nat) (hn : w.heap.size = n) (a0 a1 a2 a3 : Value) (t : TypeId) : (w.alloc (.cells #[a0, a1, a2, a3] t)).rowIs n t 4 (bx4 a0 a1 a2 a3) := by
  subst hn
  exact World.rowIs_alloc w #[a0, a1, a2, a3] t (bx4 a0 a1 a2 a3) (fun j hj => by
    have : j = 0 ∨ j = 1 ∨ j = 2 ∨ j = 3 := by simp at hj; omega
    rcases this with rfl | rfl | rfl | rfl <;> rfl)
theorem keep13 {w w' : World} {a1 : Addr} {v1 : Value} {a2 : Addr} {v2 : Value} {a3 : Addr} {v3 : Value} {a4 : Addr} {v4 : Value} {a5 : Addr} {v5 : Value} {a6 : Addr} {v6 : Value} {a7 : Addr} {v7 : Value} {a8 : Addr} {v8 : Value} {a9 : Addr} {v9 : Value} {a10 : Addr} {v10 : Value} {a11 : Addr} {v11 : Value} {a12 : Addr} {v12 : Value} {a13 : Addr} {v13 : Value} (h1 : w.cell? a1 = some v1) (h2 : w.cell? a2 = some v2) (h3 : w.cell? a3 = some v3) (h4 : w.cell? a4 = some v4) (h5 : w.cell? a5 = some v5) (h6 : w.cell? a6 = some v6) (h7 : w.cell? a7 = some v7) (h8 : w.cell? a8 = some v8) (h9 : w.cell? a9 = some v9) (h10 : w.cell? a10 = some v10) (h11 : w.cell? a11 = some v11) (h12 : w.cell? a12 = some v12) (h13 : w.cell? a13 = some v13) (hk : Kept w w') : w'.cell? a1 = some v1 ∧ w'.cell? a2 = some v2 ∧ w'.cell? a3 = some v3 ∧ w'.cell? a4 = some v4 ∧ w'.cell? a5 = some v5 ∧ w'.cell? a6 = some v6 ∧ w'.cell? a7 = some v7 ∧ w'.cell? a8 = some v8 ∧ w'.cell? a9 = some v9 ∧ w'.cell? a10 = some v10 ∧ w'.cell? a11 = some v11 ∧ w'.cell? a12 = some v12 ∧ w'.cell? a13 = some v13 ∧ Kept w w' := ⟨hk.cellSome h1, hk.cellSome h2, hk.cellSome h3, hk.cellSome h4, hk.cellSome h5, hk.cellSome h6, hk.cellSome h7, hk.cellSome h8, hk.cellSome h9, hk.cellSome h10, hk.cellSome h11, hk.cellSome h12, hk.cellSome h13, hk⟩
theorem keep14 {w w' : World} {a1 : Addr} {v1 : Value} {a2 : Addr} {v2 : Value} {a3 : Addr} {v3 : Value} {a4 : Addr} {v4 : Value} {a5 : Addr} {v5 : Value} {a6 : Addr} {v6 : Value} {a7 : Addr} {v7 : Value} {a8 : Addr} {v8 : Value} {a9 : Addr} {v9 : Value} {a10 : Addr} {v10 : Value} {a11 : Addr} {v11 : Value} {a12 : Addr} {v12 : Value} {a13 : Addr} {v13 : Value} {a14 : Addr} {v14 : Value} (h1 : w.cell? a1 = some v1) (h2 : w.cell? a2 = some v2) (h3 : w.cell? a3 = some v3) (h4 : w.cell? a4 = some v4) (h5 : w.cell? a5 = some v5) (h6 : w.cell? a6 = some v6) (h7 : w.cell? a7 = some v7) (h8 : w.cell? a8 = some v8) (h9 : w.cell? a9 = some v9) (h10 : w.cell? a10 = some v10) (h11 : w.cell? a11 = some v11) (h12 : w.cell? a12 = some v12) (h13 : w.cell? a13 = some v13) (h14 : w.cell? a14 = some v14) (hk : Kept w w') : w'.cell? a1 = some v1 ∧ w'.cell? a2 = some v2 ∧ w'.cell? a3 = some v3 ∧ w'.cell? a4 = some v4 ∧ w'.cell? a5 = some v5 ∧ w'.cell? a6 = some v6 ∧ w'.cell? a7 = some v7 ∧ w'.cell? a8 = some v8 ∧ w'.cell? a9 = some v9 ∧ w'.cell? a10 = some v10 ∧ w'.cell? a11 = some v11 ∧ w'.cell? a12 = some v12 ∧ w'.cell? a13 = some v13 ∧ w'.cell? a14 = some v14 ∧ Kept w w' := ⟨hk.cellSome h1, hk.cellSome h2, hk.cellSome h3, hk.cellSome h4, hk.cellSome h5, hk.cellSome h6, hk.cellSome h7, hk.cellSome h8, hk.cellSome h9, hk.cellSome h10, hk.cellSome h11, hk.cellSome h12, hk.cellSome h13, hk.cellSome h14, hk⟩
/-- a stage: how many calls were served, and the places of the farriers -/
def StgV (s : Nat) (P : Nat → Nat) : Value := .agg #[.int .i64 (s : Int), .int .i64 ((P 0 : Nat) : Int), .int .i64 ((P 1 : Nat) : Int), .int .i64 ((P 2 : Nat) : Int)]
theorem stg_cell {W : World} {n : Nat} {P : Nat → Nat} (h0 : W.cell? ⟨n, 1, none⟩ = some (.int .i64 ((P 0 : Nat) : Int))) (h1 : W.cell? ⟨n, 2, none⟩ = some (.int .i64 ((P 1 : Nat) : Int))) (h2 : W.cell? ⟨n, 3, none⟩ = some (.int .i64 ((P 2 : Nat) : Int))) (h : Nat) (hh : h < 3) : W.cell? ⟨n, 1 + h, none⟩ = some (.int .i64 ((P h : Nat) : Int)) := by
  have : h = 0 ∨ h = 1 ∨ h = 2 := by omega
  rcases this with rfl | rfl | rfl
  · exact h0
  · exact h1
  · exact h2
/-- the plans of k farriers, who begin at the places S, for m calls C -/
def PlansAt (w : World) (v : Value) (R : Road) (k m : Nat) (C : Nat → Nat) (s0 : Nat) (S : Nat → Nat) (M : Nat) : Prop :=
  ∃ x y z cv, v = .agg #[x, y, z, cv, .int .i64 (k : Int), .int .i64 (s0 : Int), .int .i64 ((S 0 : Nat) : Int), .int .i64 ((S 1 : Nat) : Int), .int .i64 ((S 2 : Nat) : Int), .map (some M)] ∧ TreeAt w (.agg #[x, y, z]) R ∧ IntsAt w cv m (fun i => ((C i : Nat) : Int))
theorem PlansAt.kept {w w' : World} {v : Value} {R : Road} {k m : Nat} {C : Nat → Nat} {s0 : Nat} {S : Nat → Nat} {M : Nat} (h : PlansAt w v R k m C s0 S M) (kk : Kept w w') : PlansAt w' v R k m C s0 S M := by
  obtain ⟨x, y, z, cv, e, h1, h2⟩ := h
  exact ⟨x, y, z, cv, e, h1.kept kk, h2.kept kk⟩
theorem PlansAt.open {w : World} {v : Value} {R : Road} {k m : Nat} {C : Nat → Nat} {s0 : Nat} {S : Nat → Nat} {M : Nat} (h : PlansAt w v R k m C s0 S M) (ok : R.Ok) : ∃ (b0 o0 c0 b1 o1 c1 b2 o2 c2 : Nat) (ca : Option Addr) (cb co ccap : Nat),
    v = .agg #[.slice (some ⟨b0, o0, none⟩) R.n c0, .slice (some ⟨b1, o1, none⟩) R.n c1, .slice (some ⟨b2, o2, none⟩) R.n c2, .slice ca m ccap, .int .i64 (k : Int), .int .i64 (s0 : Int), .int .i64 (S 0 : Int), .int .i64 (S 1 : Int), .int .i64 (S 2 : Int), .map (some M)] ∧ TreeAt w (Value.agg #[.slice (some ⟨b0, o0, none⟩) R.n c0, .slice (some ⟨b1, o1, none⟩) R.n c1, .slice (some ⟨b2, o2, none⟩) R.n c2]) R ∧ (0 < m → ca = some ⟨cb, co, none⟩) ∧ (∀ i, i < m → w.cell? ⟨cb, co + i, none⟩ = some (.int .i64 ((C i : Nat) : Int))) := by
  obtain ⟨x, y, z, cv, e, h1, h2⟩ := h
  obtain ⟨ca, cb, co, ccap, rfl, hca, hc⟩ := h2
  obtain ⟨b0, o0, c0, b1, o1, c1, b2, o2, c2, e2, _⟩ := h1.open ok
  injection e2 with e2
  injection e2 with e2
  injection e2 with e3 e2
  injection e2 with e4 e2
  injection e2 with e5 e2
  subst e3
  subst e4
  subst e5
  exact ⟨b0, o0, c0, b1, o1, c1, b2, o2, c2, ca, cb, co, ccap, e, h1, hca, hc⟩
def wayP (R : Road) (C : Nat → Nat) (s : Nat) (P : Nat → Nat) (h : Nat) : Nat := R.dist (P h, 0) (C s, 0)
set_option maxRecDepth 100000 in
set_option maxHeartbeats 4000000 in
theorem way_any (w : World) (v : Value) (R : Road) (ok : R.Ok) (k m : Nat) (C : Nat → Nat) (s0 : Nat) (S : Nat → Nat) (M : Nat) (hP : PlansAt w v R k m C s0 S M) (hm : m ≤ 100) (hC : ∀ i, i < m → C i < R.n) (s : Nat) (P : Nat → Nat) (h : Nat) (hs : s < m) (hh : h < 3) (hPh : P h < R.n) :
    Calls Try.prog 63 #[v, StgV s P, .int .i64 h] w fun e w' => e = .returned (.int .i64 ((wayP R C s P h : Nat) : Int)) ∧ Kept w w' := by
  obtain ⟨b0, o0, c0, b1, o1, c1, b2, o2, c2, ca, cb, co, ccap, rfl, hT, hca, hc⟩ := hP.open ok
  obtain rfl := hca (by omega)
  have hcs := hc s hs
  have DI := Lib.hid (fun W (hW : TreeAt W (Value.agg #[.slice (some ⟨b0, o0, none⟩) R.n c0, .slice (some ⟨b1, o1, none⟩) R.n c1, .slice (some ⟨b2, o2, none⟩) R.n c2]) R) => distance_any W _ R ok hW (P h, 0) (C s, 0) (Road.place_spot hPh) (Road.place_spot (hC s hs)))
  unfold StgV
  obtain ⟨n0, HN0⟩ : ∃ n0, w.heap.size = n0 := ⟨_, rfl⟩
  obtain ⟨W1, hW1, hsz, q0, q1, q2, q3, q4, q5, q6, q7, q8, q9, hK⟩ := newbox10 w n0 HN0 (.slice (some ⟨b0, o0, none⟩) R.n c0) (.slice (some ⟨b1, o1, none⟩) R.n c1) (.slice (some ⟨b2, o2, none⟩) R.n c2) (.slice (some ⟨cb, co, none⟩) m ccap) (.int .i64 (k : Int)) (.int .i64 (s0 : Int)) (.int .i64 (S 0 : Int)) (.int .i64 (S 1 : Int)) (.int .i64 (S 2 : Int)) (.map (some M)) 106
  obtain ⟨W2, hW2, hsz2, y0, y1, y2, y3, hK1⟩ := newbox4 W1 (n0 + 1) hsz (.int .i64 (s : Int)) (.int .i64 ((P 0 : Nat) : Int)) (.int .i64 ((P 1 : Nat) : Int)) (.int .i64 ((P 2 : Nat) : Int)) 103
  have yh := stg_cell y1 y2 y3 h hh
  obtain ⟨z0, z1, z2, z3, _⟩ := keep4 q0 q1 q2 q3 hK1
  have hK2 := hK.trans hK1
  have hcs2 := hK2.cellSome hcs
  have hT2 := hT.kept hK2
  obtain ⟨d, HD⟩ : ∃ d, Hid (d = wayP R C s P h) := ⟨_, rfl⟩
  have DI2 : Hid (∀ W, TreeAt W (Value.agg #[.slice (some ⟨b0, o0, none⟩) R.n c0, .slice (some ⟨b1, o1, none⟩) R.n c1, .slice (some ⟨b2, o2, none⟩) R.n c2]) R → Calls Try.prog 48 #[(Value.agg #[.slice (some ⟨b0, o0, none⟩) R.n c0, .slice (some ⟨b1, o1, none⟩) R.n c1, .slice (some ⟨b2, o2, none⟩) R.n c2]), .agg #[.int .i64 ((P h : Nat) : Int), .int .i64 0], .agg #[.int .i64 ((C s : Nat) : Int), .int .i64 0]] W fun e w' => e = .returned (.int .i64 (d : Int)) ∧ Kept W w') := by rw [HD.out]; exact DI.out
  rw [← HD.out]
  obtain ⟨p, HPP⟩ : ∃ p, Hid (p = P h) := ⟨_, rfl⟩
  obtain ⟨c, HCC⟩ : ∃ c, Hid (c = C s) := ⟨_, rfl⟩
  rw [← HPP.out] at yh DI2
  rw [← HCC.out] at hcs2 DI2
  have m1 : (s : Int) < (m : Int) := by omega
  have m2 : (0 : Int) ≤ (s : Int) := by omega
  have m3 : (h : Int) < 3 := by omega
  have m4 : (0 : Int) ≤ (h : Int) := by omega
  clear q0 q1 q2 q3 q4 q5 q6 q7 q8 q9 hcs hc hT hP DI HPP HCC HD y1 y2 y3
  go_enter Try.func63, Try.ntmps63
  go_upto_region 1 with fail
  clear hW1 hW2 hsz hsz2 HN0
  go_region_held3 (fun w' => w'.cell? ⟨n0, 0, none⟩ = some (.slice (some ⟨b0, o0, none⟩) R.n c0) ∧ w'.cell? ⟨n0, 1, none⟩ = some (.slice (some ⟨b1, o1, none⟩) R.n c1) ∧ w'.cell? ⟨n0, 2, none⟩ = some (.slice (some ⟨b2, o2, none⟩) R.n c2) ∧ w'.cell? ⟨n0, 3, none⟩ = some (.slice (some ⟨cb, co, none⟩) m ccap) ∧ w'.cell? ⟨n0 + 1, 0, none⟩ = some (.int .i64 s) ∧ w'.cell? ⟨n0 + 1, 1 + h, none⟩ = some (.int .i64 p) ∧ w'.cell? ⟨cb, co + s, none⟩ = some (.int .i64 c) ∧ Kept W2 w')
    (exact keep7 z0 z1 z2 z3 y0 yh hcs2 (by repeat (first | assumption | exact Kept.refl _ | apply Kept.drew | apply Kept.drewN | apply Kept.alloc | refine Kept.trans ?_ (by assumption))))
    (first | (go_at_call 48; refine (DI2.out _ (hT2.kept (by repeat (first | assumption | exact Kept.refl _ | apply Kept.drew | apply Kept.drewN | apply Kept.alloc | refine Kept.trans ?_ (by assumption))))).mono ?_; rintro e w' ⟨rfl, hk1⟩))
  all_goals
    go_wp2_with fail
    go_ret
    exact ⟨rfl, hK2.trans (by repeat (first | assumption | exact Kept.refl _ | apply Kept.drew | apply Kept.drewN | apply Kept.alloc | refine Kept.trans ?_ (by assumption)))⟩
end Go.Proofs.Ytlgpclnmonpkjaa
