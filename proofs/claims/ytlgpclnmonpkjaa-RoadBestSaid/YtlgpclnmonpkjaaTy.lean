/-
  Package road: the cost of a plan.
-/
import Derived.Test.YtlgpclnmonpkjaaTw
namespace Go.Proofs.Ytlgpclnmonpkjaa
open Go.RowKit Go.Deep

/-- the places after i calls of a plan, and what they have cost -/
def pS (C F S : Nat → Nat) : Nat → (Nat → Nat)
  | 0 => S
  | i + 1 => sentP C i (pS C F S i) (F i)
def cstP (R : Road) (C F S : Nat → Nat) : Nat → Nat
  | 0 => 0
  | i + 1 => cstP R C F S i + wayP R C i (pS C F S i) (F i)
theorem pS_place {R : Road} {C F S : Nat → Nat} {m : Nat} (hC : ∀ i, i < m → C i < R.n) (hS : ∀ i, i < 3 → S i < R.n) : ∀ i, i ≤ m → ∀ j, j < 3 → pS C F S i j < R.n := by
  intro i
  induction i with
  | zero => intro _; exact hS
  | succ i ih =>
    intro hi j hj
    simp only [pS, sentP]
    split
    · exact hC i (by omega)
    · exact ih (by omega) j hj
theorem cstP_le {R : Road} (ok : R.Ok) {C F S : Nat → Nat} {m k : Nat} (hC : ∀ i, i < m → C i < R.n) (hS : ∀ i, i < 3 → S i < R.n) (hk : k ≤ 3) (hF : ∀ i, i < m → F i < k) : ∀ i, i ≤ m → cstP R C F S i ≤ 360 * i := by
  intro i
  induction i with
  | zero => intro _; exact Nat.le_refl _
  | succ i ih =>
    intro hi
    have h1 := ih (by omega)
    have h2 := hF i (by omega)
    have h3 : wayP R C i (pS C F S i) (F i) ≤ 360 := Road.dist_le ok (Road.place_spot (pS_place hC hS i (by omega) _ (by omega))) (Road.place_spot (hC i (by omega)))
    simp only [cstP]
    omega
set_option maxRecDepth 100000 in
set_option maxHeartbeats 8000000 in
theorem cost_any (w : World) (v fv : Value) (R : Road) (ok : R.Ok) (k m : Nat) (C : Nat → Nat) (S : Nat → Nat) (M : Nat) (s0 : Nat) (h0 : Hid (s0 = 0)) (hP : PlansAt w v R k m C s0 S M) (hm : m ≤ 100) (hk3 : k ≤ 3) (hC : ∀ i, i < m → C i < R.n) (hS : ∀ i, i < 3 → S i < R.n) (F : Nat → Nat) (hFv : IntsAt w fv m (fun i => ((F i : Nat) : Int))) (hF : ∀ i, i < m → F i < k) :
    Calls Try.prog 62 #[v, fv] w fun e w' => e = .returned (.int .i64 ((cstP R C F S m : Nat) : Int)) ∧ Kept w w' := by
  have hP0 := hP
  obtain ⟨b0, o0, c0, b1, o1, c1, b2, o2, c2, ca, cb, co, ccap, rfl, _, hca, hc⟩ := hP.open ok
  obtain ⟨fa, fb, fo, fcap, rfl, hfa, hfc⟩ := hFv
  have WY := Lib.hid (fun W s P h (hW : PlansAt W (.agg #[.slice (some ⟨b0, o0, none⟩) R.n c0, .slice (some ⟨b1, o1, none⟩) R.n c1, .slice (some ⟨b2, o2, none⟩) R.n c2, .slice ca m ccap, .int .i64 (k : Int), .int .i64 (s0 : Int), .int .i64 (S 0 : Int), .int .i64 (S 1 : Int), .int .i64 (S 2 : Int), .map (some M)]) R k m C s0 S M) (hs : s < m) (hh : h < k) (hPb : ∀ i, i < 3 → P i < R.n) => way_any W _ R ok k m C s0 S M hW hm hC s P h hs (by omega) (hPb h (by omega)))
  have SN := Lib.hid (fun W s P h (hW : PlansAt W (.agg #[.slice (some ⟨b0, o0, none⟩) R.n c0, .slice (some ⟨b1, o1, none⟩) R.n c1, .slice (some ⟨b2, o2, none⟩) R.n c2, .slice ca m ccap, .int .i64 (k : Int), .int .i64 (s0 : Int), .int .i64 (S 0 : Int), .int .i64 (S 1 : Int), .int .i64 (S 2 : Int), .map (some M)]) R k m C s0 S M) (hs : s < m) (hh : h < k) => sent_any W _ R ok k m C s0 S M hW hm s P h hs (by omega))
  unfold StgV at WY SN
  obtain ⟨n0, HN0⟩ : ∃ n0, w.heap.size = n0 := ⟨_, rfl⟩
  obtain ⟨W1, hW1, hsz, q0, q1, q2, q3, q4, q5, q6, q7, q8, q9, hK⟩ := newbox10 w n0 HN0 (.slice (some ⟨b0, o0, none⟩) R.n c0) (.slice (some ⟨b1, o1, none⟩) R.n c1) (.slice (some ⟨b2, o2, none⟩) R.n c2) (.slice ca m ccap) (.int .i64 (k : Int)) (.int .i64 (s0 : Int)) (.int .i64 (S 0 : Int)) (.int .i64 (S 1 : Int)) (.int .i64 (S 2 : Int)) (.map (some M)) 106
  have hrow := box4row W1 (n0 + 1) hsz (.int .i64 (s0 : Int)) (.int .i64 ((S 0 : Nat) : Int)) (.int .i64 ((S 1 : Nat) : Int)) (.int .i64 ((S 2 : Nat) : Int)) 103
  obtain ⟨W2, hW2, hsz2, y0, y1, y2, y3, hK1⟩ := newbox4 W1 (n0 + 1) hsz (.int .i64 (s0 : Int)) (.int .i64 ((S 0 : Nat) : Int)) (.int .i64 ((S 1 : Nat) : Int)) (.int .i64 ((S 2 : Nat) : Int)) 103
  rw [hW2] at hrow
  have hP1 := hP0.kept hK
  have HFC := Lib.hid (fun i hi => hK.cellSome (hfc i hi))
  have hg1 : W1.heap.size ≤ n0 + 1 := by omega
  clear hc hP hP0 y0 y1 y2 y3 hfc
  go_enter Try.func62, Try.ntmps62
  go_wp2_with fail
  obtain ⟨np, HNP⟩ : ∃ np, n0 + 1 = np := ⟨_, rfl⟩
  rw [HNP] at hrow hg1 ⊢
  clear hW1 hW2 hsz hsz2 HNP
  go_loopg [5, 13] m (fun g s5 s13 wr => ∃ (i j : Nat) (P : Nat → Nat), i ≤ m ∧ g = m - i ∧ s13 = .int .i64 i ∧ s5 = .int .i64 ((cstP R C F S i : Nat) : Int) ∧ Hid (P = pS C F S i) ∧ Hid (j = i) ∧ Kept W1 wr ∧ wr.rowIs np 103 4 (bx4 (.int .i64 ((j : Nat) : Int)) (.int .i64 ((P 0 : Nat) : Int)) (.int .i64 ((P 1 : Nat) : Int)) (.int .i64 ((P 2 : Nat) : Int))))
  case atStart => exact ⟨0, s0, S, Nat.zero_le _, rfl, rfl, rfl, rfl, h0.out, hK1, hrow⟩
  case round =>
    clear hrow hK1
    obtain ⟨i, j, P, hi, rfl, rfl, rfl, hPs, hj, hKr, hrow⟩ := hrel
    obtain ⟨z0, z1, z2, z3, z4, z5, z6, z7, z8, z9, _⟩ := keep10 q0 q1 q2 q3 q4 q5 q6 q7 q8 q9 hKr
    have y0 : wr.cell? ⟨np, 0, none⟩ = some (.int .i64 (j : Int)) := hrow.cell (i := 0) (by omega)
    have y1 : wr.cell? ⟨np, 1, none⟩ = some (.int .i64 ((P 0 : Nat) : Int)) := hrow.cell (i := 1) (by omega)
    have y2 : wr.cell? ⟨np, 2, none⟩ = some (.int .i64 ((P 1 : Nat) : Int)) := hrow.cell (i := 2) (by omega)
    have y3 : wr.cell? ⟨np, 3, none⟩ = some (.int .i64 ((P 2 : Nat) : Int)) := hrow.cell (i := 3) (by omega)
    by_cases hlt : i < m
    · obtain rfl := hca (by omega)
      obtain rfl := hfa (by omega)
      have hff := hKr.cellSome (HFC.out i hlt)
      have hfk := hF i hlt
      have hPb : ∀ t, t < 3 → P t < R.n := by rw [hPs.out]; exact pS_place hC hS i (by omega)
      have hj2 : j < m := by rw [hj.out]; exact hlt
      have m1 : (i : Int) < (m : Int) := by omega
      have m2 : (0 : Int) ≤ (i : Int) := by omega
      have hcl := cstP_le ok hC hS hk3 hF (i + 1) (by omega)
      have hcs := Lib.hid (show cstP R C F S (i + 1) = cstP R C F S i + wayP R C j P (F i) by rw [hPs.out, hj.out]; rfl)
      have hcw : cstP R C F S i + wayP R C j P (F i) ≤ 360 * (i + 1) := by rw [← hcs.out]; exact hcl
      have hsn : Hid (sentP C j P (F i) = pS C F S (i + 1)) := by show _ = _; rw [hPs.out, hj.out]; rfl
      have WY2 := Lib.hid (fun W hW => WY.out W j P (F i) hW hj2 hfk hPb)
      have SN2 := Lib.hid (fun W hW => SN.out W j P (F i) hW hj2 hfk)
      have hPl := hP1.kept hKr
      obtain ⟨Q, HQ⟩ : ∃ Q, Hid (Q = sentP C j P (F i)) := ⟨_, rfl⟩
      rw [← HQ.out] at SN2 hsn
      obtain ⟨f, HF⟩ : ∃ f, Hid (f = F i) := ⟨_, rfl⟩
      rw [← HF.out] at hff WY2 SN2 hcs hcw
      obtain ⟨d, HD⟩ : ∃ d, Hid (d = wayP R C j P f) := ⟨_, rfl⟩
      rw [← HD.out] at WY2 hcs hcw
      have s1 : IntKind.i64.wrap (((cstP R C F S i : Nat) : Int) + (d : Int)) = ((cstP R C F S i : Nat) : Int) + (d : Int) := IntWalk.i64_in _ (by omega)
      clear hcl HD HF HQ hPb hfk
      go_wp2_with (first | (go_at_call 63; refine (WY2.out _ hPl).mono ?_; rintro e w5 ⟨rfl, hk5⟩; obtain ⟨z0', z1', z2', z3', z4', z5', z6', z7', z8', z9', _⟩ := keep10 z0 z1 z2 z3 z4 z5 z6 z7 z8 z9 hk5; obtain ⟨y0', y1', y2', y3', _⟩ := keep4 y0 y1 y2 y3 hk5) | (go_at_call 78; refine (SN2.out _ (hPl.kept hk5)).mono ?_; rintro e w6 ⟨rfl, hk6⟩; have hkk := hk5.trans hk6; obtain ⟨u0, u1, u2, u3, _⟩ := keep4 y0 y1 y2 y3 hkk; have hrow6 := hkk.row hrow; have g0 := hrow6.frozen 0; have g1 := hrow6.frozen 1; have g2 := hrow6.frozen 2; have g3 := hrow6.frozen 3))
      obtain ⟨hrowF, _⟩ := fill4 hrow6 (World.ownsRow_nil w6 0 3 1) (.int .i64 ((j : Int) + 1)) (.int .i64 ((Q 0 : Nat) : Int)) (.int .i64 ((Q 1 : Nat) : Int)) (.int .i64 ((Q 2 : Nat) : Int))
      have hKF := ((((hKr.trans hkk).setCell (p := ⟨np, 0, none⟩) hg1 (.int .i64 ((j : Int) + 1))).setCell (p := ⟨np, 1, none⟩) hg1 (.int .i64 ((Q 0 : Nat) : Int))).setCell (p := ⟨np, 2, none⟩) hg1 (.int .i64 ((Q 1 : Nat) : Int))).setCell (p := ⟨np, 3, none⟩) hg1 (.int .i64 ((Q 2 : Nat) : Int))
      go_roundg (m - (i + 1))
      case measure => omega
      case rel => exact ⟨i + 1, j + 1, Q, by omega, rfl, by go_num, by rw [hcs.out, Int.natCast_add], hsn.out, by show _ = _; rw [hj.out], hKF, hrowF⟩
    · obtain rfl : i = m := by omega
      go_wp2_with fail
      go_ret
      exact ⟨rfl, hK.trans hKr⟩
end Go.Proofs.Ytlgpclnmonpkjaa
