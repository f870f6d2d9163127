/-
  Package road: sent; the end of the calls; leastWith for the last call.
-/
import Derived.Test.YtlgpclnmonpkjaaTt
namespace Go.Proofs.Ytlgpclnmonpkjaa
open Go.RowKit Go.Deep

theorem fin4a {w W : World} {b : Nat} {t : TypeId} {x0 y0 z0 u0 : Value} (h : W.rowIs b t 4 (bx4 x0 y0 z0 u0)) (hk : Kept w W) (hb : w.heap.size ≤ b) (x y z u : Value) :
    W.frozen? ⟨b, 0, none⟩ = false ∧ W.frozen? ⟨b, 1, none⟩ = false ∧ W.frozen? ⟨b, 2, none⟩ = false ∧ W.frozen? ⟨b, 3, none⟩ = false ∧ W.cell? ⟨b, 0, none⟩ = some x0 ∧ W.cell? ⟨b, 1, none⟩ = some y0 ∧ W.cell? ⟨b, 2, none⟩ = some z0 ∧ W.cell? ⟨b, 3, none⟩ = some u0 ∧
    ((((W.setCell ⟨b, 0, none⟩ x).setCell ⟨b, 1, none⟩ y).setCell ⟨b, 2, none⟩ z).setCell ⟨b, 3, none⟩ u).cell? ⟨b, 0, none⟩ = some x ∧ ((((W.setCell ⟨b, 0, none⟩ x).setCell ⟨b, 1, none⟩ y).setCell ⟨b, 2, none⟩ z).setCell ⟨b, 3, none⟩ u).cell? ⟨b, 1, none⟩ = some y ∧ ((((W.setCell ⟨b, 0, none⟩ x).setCell ⟨b, 1, none⟩ y).setCell ⟨b, 2, none⟩ z).setCell ⟨b, 3, none⟩ u).cell? ⟨b, 2, none⟩ = some z ∧ ((((W.setCell ⟨b, 0, none⟩ x).setCell ⟨b, 1, none⟩ y).setCell ⟨b, 2, none⟩ z).setCell ⟨b, 3, none⟩ u).cell? ⟨b, 3, none⟩ = some u ∧
    Kept w ((((W.setCell ⟨b, 0, none⟩ x).setCell ⟨b, 1, none⟩ y).setCell ⟨b, 2, none⟩ z).setCell ⟨b, 3, none⟩ u) := by
  have h2 := (((h.set 0 x).set 1 y).set 2 z).set 3 u
  have h3 := h2.congr (g := bx4 x y z u) (fun i hi => by
    have : i = 0 ∨ i = 1 ∨ i = 2 ∨ i = 3 := by omega
    rcases this with rfl | rfl | rfl | rfl <;> simp [bx4])
  exact ⟨h.frozen 0, h.frozen 1, h.frozen 2, h.frozen 3, h.cell (i := 0) (by omega), h.cell (i := 1) (by omega), h.cell (i := 2) (by omega), h.cell (i := 3) (by omega), h3.cell (i := 0) (by omega), h3.cell (i := 1) (by omega), h3.cell (i := 2) (by omega), h3.cell (i := 3) (by omega), (((hk.setCell (p := ⟨b, 0, none⟩) hb x).setCell (p := ⟨b, 1, none⟩) hb y).setCell (p := ⟨b, 2, none⟩) hb z).setCell (p := ⟨b, 3, none⟩) hb u⟩
def sentP (C : Nat → Nat) (s : Nat) (P : Nat → Nat) (h : Nat) : Nat → Nat := fun i => if i = h then C s else P i
set_option maxRecDepth 100000 in
set_option maxHeartbeats 4000000 in
theorem sent_any (w : World) (v : Value) (R : Road) (ok : R.Ok) (k m : Nat) (C : Nat → Nat) (s0 : Nat) (S : Nat → Nat) (M : Nat) (hP : PlansAt w v R k m C s0 S M) (hm : m ≤ 100) (s : Nat) (P : Nat → Nat) (h : Nat) (hs : s < m) (hh : h < 3) :
    Calls Try.prog 78 #[v, StgV s P, .int .i64 h] w fun e w' => e = .returned (StgV (s + 1) (sentP C s P h)) ∧ Kept w w' := by
  obtain ⟨b0, o0, c0, b1, o1, c1, b2, o2, c2, ca, cb, co, ccap, rfl, _, hca, hc⟩ := hP.open ok
  obtain rfl := hca (by omega)
  have hcs := hc s hs
  unfold StgV
  obtain ⟨n0, HN0⟩ : ∃ n0, w.heap.size = n0 := ⟨_, rfl⟩
  obtain ⟨W1, hW1, hsz, q0, q1, q2, q3, q4, q5, q6, q7, q8, q9, hK⟩ := newbox10 w n0 HN0 (.slice (some ⟨b0, o0, none⟩) R.n c0) (.slice (some ⟨b1, o1, none⟩) R.n c1) (.slice (some ⟨b2, o2, none⟩) R.n c2) (.slice (some ⟨cb, co, none⟩) m ccap) (.int .i64 (k : Int)) (.int .i64 (s0 : Int)) (.int .i64 (S 0 : Int)) (.int .i64 (S 1 : Int)) (.int .i64 (S 2 : Int)) (.map (some M)) 106
  have hrow := box4row W1 (n0 + 1) hsz (.int .i64 (s : Int)) (.int .i64 ((P 0 : Nat) : Int)) (.int .i64 ((P 1 : Nat) : Int)) (.int .i64 ((P 2 : Nat) : Int)) 103
  obtain ⟨W2, hW2, hsz2, y0, y1, y2, y3, hK1⟩ := newbox4 W1 (n0 + 1) hsz (.int .i64 (s : Int)) (.int .i64 ((P 0 : Nat) : Int)) (.int .i64 ((P 1 : Nat) : Int)) (.int .i64 ((P 2 : Nat) : Int)) 103
  have hres := box4row W2 (n0 + 1 + 1) hsz2 (.int .i64 0) (.int .i64 0) (.int .i64 0) (.int .i64 0) 103
  obtain ⟨W3, hW3, hsz3, _, _, _, _, hKK⟩ := newbox4 W2 (n0 + 1 + 1) hsz2 (.int .i64 0) (.int .i64 0) (.int .i64 0) (.int .i64 0) 103
  rw [hW2] at hrow
  rw [hW3] at hres
  have hrow := hKK.row hrow
  have hK3 := (hK.trans hK1).trans hKK
  obtain ⟨z3, y0', y1', y2', y3', _⟩ := keep5 ((hK1.cellSome q3)) y0 y1 y2 y3 hKK
  have hcs3 := hK3.cellSome hcs
  have hg1 : w.heap.size ≤ n0 + 1 := by omega
  have hg2 : w.heap.size ≤ n0 + 1 + 1 := by omega
  have hn12 : n0 + 1 + 1 ≠ n0 + 1 := by omega
  have m1 : (s : Int) < (m : Int) := by omega
  have m2 : (0 : Int) ≤ (s : Int) := by omega
  have s1 : IntKind.i64.wrap ((s : Int) + 1) = (s : Int) + 1 := IntWalk.i64_in _ (by omega)
  clear q0 q1 q2 q3 q4 q5 q6 q7 q8 q9 y0 y1 y2 y3 hK hK1 hKK hc hP
  have hh3 : h = 0 ∨ h = 1 ∨ h = 2 := by omega
  rcases hh3 with rfl | rfl | rfl
  · skip
    have x0 := hrow.frozen 1
    have x0' : W3.cell? ⟨n0 + 1, 1, none⟩ = some (.int .i64 ((P 0 : Nat) : Int)) := hrow.cell (i := 1) (by omega)
    obtain ⟨Wa, hWa, hA, hresA, hKA⟩ : ∃ Wa, W3.setCell ⟨n0 + 1, 1, none⟩ (.int .i64 ((C s : Nat) : Int)) = Wa ∧ Wa.rowIs (n0 + 1) 103 4 (fun i => if i = 1 then .int .i64 ((C s : Nat) : Int) else bx4 (.int .i64 (s : Int)) (.int .i64 ((P 0 : Nat) : Int)) (.int .i64 ((P 1 : Nat) : Int)) (.int .i64 ((P 2 : Nat) : Int)) i) ∧ Wa.rowIs (n0 + 1 + 1) 103 4 (bx4 (.int .i64 0) (.int .i64 0) (.int .i64 0) (.int .i64 0)) ∧ Kept w Wa := ⟨_, rfl, hrow.set 1 _, row_other hres hn12 _, hK3.setCell (p := ⟨n0 + 1, 1, none⟩) hg1 _⟩
    have x1 : Wa.cell? ⟨n0 + 1, 0, none⟩ = some (.int .i64 (s : Int)) := hA.cell (i := 0) (by omega)
    have x2 := hA.frozen 0
    obtain ⟨Wb, hWb, hB, hresB, hKB⟩ : ∃ Wb, Wa.setCell ⟨n0 + 1, 0, none⟩ (.int .i64 ((s : Int) + 1)) = Wb ∧ Wb.rowIs (n0 + 1) 103 4 (bx4 (.int .i64 ((s : Int) + 1)) (.int .i64 ((C s : Nat) : Int)) (.int .i64 ((P 1 : Nat) : Int)) (.int .i64 ((P 2 : Nat) : Int))) ∧ Wb.rowIs (n0 + 1 + 1) 103 4 (bx4 (.int .i64 0) (.int .i64 0) (.int .i64 0) (.int .i64 0)) ∧ Kept w Wb := ⟨_, rfl, (hA.set 0 (.int .i64 ((s : Int) + 1))).congr (fun i hi => by
      have : i = 0 ∨ i = 1 ∨ i = 2 ∨ i = 3 := by omega
      rcases this with rfl | rfl | rfl | rfl <;> simp [bx4]), row_other hresA hn12 _, hKA.setCell (p := ⟨n0 + 1, 0, none⟩) hg1 _⟩
    have b0' : Wb.cell? ⟨n0 + 1, 0, none⟩ = some (.int .i64 ((s : Int) + 1)) := hB.cell (i := 0) (by omega)
    have b1' : Wb.cell? ⟨n0 + 1, 1, none⟩ = some (.int .i64 ((C s : Nat) : Int)) := hB.cell (i := 1) (by omega)
    have b2' : Wb.cell? ⟨n0 + 1, 2, none⟩ = some (.int .i64 ((P 1 : Nat) : Int)) := hB.cell (i := 2) (by omega)
    have b3' : Wb.cell? ⟨n0 + 1, 3, none⟩ = some (.int .i64 ((P 2 : Nat) : Int)) := hB.cell (i := 3) (by omega)
    obtain ⟨f0, f1, f2, f3, t0, t1, t2, t3, r0', r1', r2', r3', hKF'⟩ := fin4a hresB hKB hg2 (.int .i64 ((s : Int) + 1)) (.int .i64 ((C s : Nat) : Int)) (.int .i64 ((P 1 : Nat) : Int)) (.int .i64 ((P 2 : Nat) : Int))
    obtain ⟨WF, hWF, r0, r1, r2, r3, hKF⟩ : ∃ WF, ((((Wb.setCell ⟨n0 + 1 + 1, 0, none⟩ (.int .i64 ((s : Int) + 1))).setCell ⟨n0 + 1 + 1, 1, none⟩ (.int .i64 ((C s : Nat) : Int))).setCell ⟨n0 + 1 + 1, 2, none⟩ (.int .i64 ((P 1 : Nat) : Int))).setCell ⟨n0 + 1 + 1, 3, none⟩ (.int .i64 ((P 2 : Nat) : Int))) = WF ∧ WF.cell? ⟨n0 + 1 + 1, 0, none⟩ = some (.int .i64 ((s : Int) + 1)) ∧ WF.cell? ⟨n0 + 1 + 1, 1, none⟩ = some (.int .i64 ((C s : Nat) : Int)) ∧ WF.cell? ⟨n0 + 1 + 1, 2, none⟩ = some (.int .i64 ((P 1 : Nat) : Int)) ∧ WF.cell? ⟨n0 + 1 + 1, 3, none⟩ = some (.int .i64 ((P 2 : Nat) : Int)) ∧ Kept w WF := ⟨_, rfl, r0', r1', r2', r3', hKF'⟩
    clear hA hB hresA hresB hrow hres r0' r1' r2' r3' hKF' hKA hKB hK3 hn12
    go_enter Try.func78, Try.ntmps78
    go_wp2_with fail
    exact bodyPost_ret (v := .agg #[.int .i64 ((s : Int) + 1), .int .i64 ((C s : Nat) : Int), .int .i64 ((P 1 : Nat) : Int), .int .i64 ((P 2 : Nat) : Int)]) (by simp [results, Try.results78, go_sem, r0, r1, r2, r3]) rfl ⟨by simp [sentP], hKF⟩
  · skip
    have x0 := hrow.frozen 2
    have x0' : W3.cell? ⟨n0 + 1, 2, none⟩ = some (.int .i64 ((P 1 : Nat) : Int)) := hrow.cell (i := 2) (by omega)
    obtain ⟨Wa, hWa, hA, hresA, hKA⟩ : ∃ Wa, W3.setCell ⟨n0 + 1, 2, none⟩ (.int .i64 ((C s : Nat) : Int)) = Wa ∧ Wa.rowIs (n0 + 1) 103 4 (fun i => if i = 2 then .int .i64 ((C s : Nat) : Int) else bx4 (.int .i64 (s : Int)) (.int .i64 ((P 0 : Nat) : Int)) (.int .i64 ((P 1 : Nat) : Int)) (.int .i64 ((P 2 : Nat) : Int)) i) ∧ Wa.rowIs (n0 + 1 + 1) 103 4 (bx4 (.int .i64 0) (.int .i64 0) (.int .i64 0) (.int .i64 0)) ∧ Kept w Wa := ⟨_, rfl, hrow.set 2 _, row_other hres hn12 _, hK3.setCell (p := ⟨n0 + 1, 2, none⟩) hg1 _⟩
    have x1 : Wa.cell? ⟨n0 + 1, 0, none⟩ = some (.int .i64 (s : Int)) := hA.cell (i := 0) (by omega)
    have x2 := hA.frozen 0
    obtain ⟨Wb, hWb, hB, hresB, hKB⟩ : ∃ Wb, Wa.setCell ⟨n0 + 1, 0, none⟩ (.int .i64 ((s : Int) + 1)) = Wb ∧ Wb.rowIs (n0 + 1) 103 4 (bx4 (.int .i64 ((s : Int) + 1)) (.int .i64 ((P 0 : Nat) : Int)) (.int .i64 ((C s : Nat) : Int)) (.int .i64 ((P 2 : Nat) : Int))) ∧ Wb.rowIs (n0 + 1 + 1) 103 4 (bx4 (.int .i64 0) (.int .i64 0) (.int .i64 0) (.int .i64 0)) ∧ Kept w Wb := ⟨_, rfl, (hA.set 0 (.int .i64 ((s : Int) + 1))).congr (fun i hi => by
      have : i = 0 ∨ i = 1 ∨ i = 2 ∨ i = 3 := by omega
      rcases this with rfl | rfl | rfl | rfl <;> simp [bx4]), row_other hresA hn12 _, hKA.setCell (p := ⟨n0 + 1, 0, none⟩) hg1 _⟩
    have b0' : Wb.cell? ⟨n0 + 1, 0, none⟩ = some (.int .i64 ((s : Int) + 1)) := hB.cell (i := 0) (by omega)
    have b1' : Wb.cell? ⟨n0 + 1, 1, none⟩ = some (.int .i64 ((P 0 : Nat) : Int)) := hB.cell (i := 1) (by omega)
    have b2' : Wb.cell? ⟨n0 + 1, 2, none⟩ = some (.int .i64 ((C s : Nat) : Int)) := hB.cell (i := 2) (by omega)
    have b3' : Wb.cell? ⟨n0 + 1, 3, none⟩ = some (.int .i64 ((P 2 : Nat) : Int)) := hB.cell (i := 3) (by omega)
    obtain ⟨f0, f1, f2, f3, t0, t1, t2, t3, r0', r1', r2', r3', hKF'⟩ := fin4a hresB hKB hg2 (.int .i64 ((s : Int) + 1)) (.int .i64 ((P 0 : Nat) : Int)) (.int .i64 ((C s : Nat) : Int)) (.int .i64 ((P 2 : Nat) : Int))
    obtain ⟨WF, hWF, r0, r1, r2, r3, hKF⟩ : ∃ WF, ((((Wb.setCell ⟨n0 + 1 + 1, 0, none⟩ (.int .i64 ((s : Int) + 1))).setCell ⟨n0 + 1 + 1, 1, none⟩ (.int .i64 ((P 0 : Nat) : Int))).setCell ⟨n0 + 1 + 1, 2, none⟩ (.int .i64 ((C s : Nat) : Int))).setCell ⟨n0 + 1 + 1, 3, none⟩ (.int .i64 ((P 2 : Nat) : Int))) = WF ∧ WF.cell? ⟨n0 + 1 + 1, 0, none⟩ = some (.int .i64 ((s : Int) + 1)) ∧ WF.cell? ⟨n0 + 1 + 1, 1, none⟩ = some (.int .i64 ((P 0 : Nat) : Int)) ∧ WF.cell? ⟨n0 + 1 + 1, 2, none⟩ = some (.int .i64 ((C s : Nat) : Int)) ∧ WF.cell? ⟨n0 + 1 + 1, 3, none⟩ = some (.int .i64 ((P 2 : Nat) : Int)) ∧ Kept w WF := ⟨_, rfl, r0', r1', r2', r3', hKF'⟩
    clear hA hB hresA hresB hrow hres r0' r1' r2' r3' hKF' hKA hKB hK3 hn12
    go_enter Try.func78, Try.ntmps78
    go_wp2_with fail
    exact bodyPost_ret (v := .agg #[.int .i64 ((s : Int) + 1), .int .i64 ((P 0 : Nat) : Int), .int .i64 ((C s : Nat) : Int), .int .i64 ((P 2 : Nat) : Int)]) (by simp [results, Try.results78, go_sem, r0, r1, r2, r3]) rfl ⟨by simp [sentP], hKF⟩
  · skip
    have x0 := hrow.frozen 3
    have x0' : W3.cell? ⟨n0 + 1, 3, none⟩ = some (.int .i64 ((P 2 : Nat) : Int)) := hrow.cell (i := 3) (by omega)
    obtain ⟨Wa, hWa, hA, hresA, hKA⟩ : ∃ Wa, W3.setCell ⟨n0 + 1, 3, none⟩ (.int .i64 ((C s : Nat) : Int)) = Wa ∧ Wa.rowIs (n0 + 1) 103 4 (fun i => if i = 3 then .int .i64 ((C s : Nat) : Int) else bx4 (.int .i64 (s : Int)) (.int .i64 ((P 0 : Nat) : Int)) (.int .i64 ((P 1 : Nat) : Int)) (.int .i64 ((P 2 : Nat) : Int)) i) ∧ Wa.rowIs (n0 + 1 + 1) 103 4 (bx4 (.int .i64 0) (.int .i64 0) (.int .i64 0) (.int .i64 0)) ∧ Kept w Wa := ⟨_, rfl, hrow.set 3 _, row_other hres hn12 _, hK3.setCell (p := ⟨n0 + 1, 3, none⟩) hg1 _⟩
    have x1 : Wa.cell? ⟨n0 + 1, 0, none⟩ = some (.int .i64 (s : Int)) := hA.cell (i := 0) (by omega)
    have x2 := hA.frozen 0
    obtain ⟨Wb, hWb, hB, hresB, hKB⟩ : ∃ Wb, Wa.setCell ⟨n0 + 1, 0, none⟩ (.int .i64 ((s : Int) + 1)) = Wb ∧ Wb.rowIs (n0 + 1) 103 4 (bx4 (.int .i64 ((s : Int) + 1)) (.int .i64 ((P 0 : Nat) : Int)) (.int .i64 ((P 1 : Nat) : Int)) (.int .i64 ((C s : Nat) : Int))) ∧ Wb.rowIs (n0 + 1 + 1) 103 4 (bx4 (.int .i64 0) (.int .i64 0) (.int .i64 0) (.int .i64 0)) ∧ Kept w Wb := ⟨_, rfl, (hA.set 0 (.int .i64 ((s : Int) + 1))).congr (fun i hi => by
      have : i = 0 ∨ i = 1 ∨ i = 2 ∨ i = 3 := by omega
      rcases this with rfl | rfl | rfl | rfl <;> simp [bx4]), row_other hresA hn12 _, hKA.setCell (p := ⟨n0 + 1, 0, none⟩) hg1 _⟩
    have b0' : Wb.cell? ⟨n0 + 1, 0, none⟩ = some (.int .i64 ((s : Int) + 1)) := hB.cell (i := 0) (by omega)
    have b1' : Wb.cell? ⟨n0 + 1, 1, none⟩ = some (.int .i64 ((P 0 : Nat) : Int)) := hB.cell (i := 1) (by omega)
    have b2' : Wb.cell? ⟨n0 + 1, 2, none⟩ = some (.int .i64 ((P 1 : Nat) : Int)) := hB.cell (i := 2) (by omega)
    have b3' : Wb.cell? ⟨n0 + 1, 3, none⟩ = some (.int .i64 ((C s : Nat) : Int)) := hB.cell (i := 3) (by omega)
    obtain ⟨f0, f1, f2, f3, t0, t1, t2, t3, r0', r1', r2', r3', hKF'⟩ := fin4a hresB hKB hg2 (.int .i64 ((s : Int) + 1)) (.int .i64 ((P 0 : Nat) : Int)) (.int .i64 ((P 1 : Nat) : Int)) (.int .i64 ((C s : Nat) : Int))
    obtain ⟨WF, hWF, r0, r1, r2, r3, hKF⟩ : ∃ WF, ((((Wb.setCell ⟨n0 + 1 + 1, 0, none⟩ (.int .i64 ((s : Int) + 1))).setCell ⟨n0 + 1 + 1, 1, none⟩ (.int .i64 ((P 0 : Nat) : Int))).setCell ⟨n0 + 1 + 1, 2, none⟩ (.int .i64 ((P 1 : Nat) : Int))).setCell ⟨n0 + 1 + 1, 3, none⟩ (.int .i64 ((C s : Nat) : Int))) = WF ∧ WF.cell? ⟨n0 + 1 + 1, 0, none⟩ = some (.int .i64 ((s : Int) + 1)) ∧ WF.cell? ⟨n0 + 1 + 1, 1, none⟩ = some (.int .i64 ((P 0 : Nat) : Int)) ∧ WF.cell? ⟨n0 + 1 + 1, 2, none⟩ = some (.int .i64 ((P 1 : Nat) : Int)) ∧ WF.cell? ⟨n0 + 1 + 1, 3, none⟩ = some (.int .i64 ((C s : Nat) : Int)) ∧ Kept w WF := ⟨_, rfl, r0', r1', r2', r3', hKF'⟩
    clear hA hB hresA hresB hrow hres r0' r1' r2' r3' hKF' hKA hKB hK3 hn12
    go_enter Try.func78, Try.ntmps78
    go_wp2_with fail
    exact bodyPost_ret (v := .agg #[.int .i64 ((s : Int) + 1), .int .i64 ((P 0 : Nat) : Int), .int .i64 ((P 1 : Nat) : Int), .int .i64 ((C s : Nat) : Int)]) (by simp [results, Try.results78, go_sem, r0, r1, r2, r3]) rfl ⟨by simp [sentP], hKF⟩
end Go.Proofs.Ytlgpclnmonpkjaa
