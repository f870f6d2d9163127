/-
  Walks along two outlines: the pair that comes next.
-/
import Derived.Test.YtomnjcjipdnnfaaE
namespace Go.Proofs.Ytomnjcjipdnnfaa
open Go.RowKit Go.Deep

set_option maxRecDepth 100000 in
set_option maxHeartbeats 4000000 in
theorem next_j (w : World) (m n i j lb : Nat) (br : Nat → Nat) (L : Nat → Nat → Int) (fv : Value) (hi : i < m) (h1 : j + 1 < n) (h2 : ¬ i + 1 < m) (hm2 : m ≤ 1000000) (hn2 : n ≤ 1000000)
    (hL : ∀ p q, p < m → q < n → i ≤ p → j ≤ q → i + j < p + q → p ≤ i + 1 → q ≤ j + 1 → w.cell? ⟨lb, p, none⟩ = some (.slice (some ⟨br p, 0, none⟩) n n) ∧ w.cell? ⟨br p, q, none⟩ = some (.int .i64 (L p q))) :
    Calls Try.prog 77 #[WalksV m n fv, PairV i j, .slice (some ⟨lb, 0, none⟩) m m] w fun e w' => e = .returned (PairV (nxt m n L i j).1 (nxt m n L i j).2) ∧ Kept w w' := by
  have s1 : IntKind.i64.wrap ((j : Int) + 1) = (j : Int) + 1 := IntWalk.i64_in _ (by omega)
  have s2 : IntKind.i64.wrap ((i : Int) + 1) = (i : Int) + 1 := IntWalk.i64_in _ (by omega)
  have HL := Lib.hid hL
  clear hL
  unfold WalksV PairV
  have hW1 := World.rowIs_alloc w #[.int .i64 m, .int .i64 n, fv] 89 (fun t => if t = 0 then .int .i64 m else if t = 1 then .int .i64 n else fv) (fun t ht => by
    have : t = 0 ∨ t = 1 ∨ t = 2 := by simp at ht; omega
    rcases this with rfl | rfl | rfl <;> rfl)
  have hW3 := World.rowIs_alloc ((w.alloc (.cells #[.int .i64 m, .int .i64 n, fv] 89)).alloc (.cells #[.int .i64 i, .int .i64 j] 98)) #[.int .i64 0, .int .i64 0] 98 (fun _ => .int .i64 0) (fun t ht => by
    have : t = 0 ∨ t = 1 := by simp at ht; omega
    rcases this with rfl | rfl <;> rfl)
  have hW5 := World.rowIs_alloc ((((w.alloc (.cells #[.int .i64 m, .int .i64 n, fv] 89)).alloc (.cells #[.int .i64 i, .int .i64 j] 98)).alloc (.cells #[.int .i64 0, .int .i64 0] 98)).alloc (.cells #[.int .i64 i, .int .i64 ((j : Int) + 1), .int .i64 ((i : Int) + 1), .int .i64 j, .int .i64 ((i : Int) + 1), .int .i64 ((j : Int) + 1)] 125)) #[.int .i64 0, .int .i64 0] 98 (fun _ => .int .i64 0) (fun t ht => by
    have : t = 0 ∨ t = 1 := by simp at ht; omega
    rcases this with rfl | rfl <;> rfl)
  have hk1 : Kept (w.alloc (.cells #[.int .i64 m, .int .i64 n, fv] 89)) (((((w.alloc (.cells #[.int .i64 m, .int .i64 n, fv] 89)).alloc (.cells #[.int .i64 i, .int .i64 j] 98)).alloc (.cells #[.int .i64 0, .int .i64 0] 98)).alloc (.cells #[.int .i64 i, .int .i64 ((j : Int) + 1), .int .i64 ((i : Int) + 1), .int .i64 j, .int .i64 ((i : Int) + 1), .int .i64 ((j : Int) + 1)] 125)).alloc (.cells #[.int .i64 0, .int .i64 0] 98)) := (((((Kept.refl _).alloc _).alloc _).alloc _).alloc _)
  have hk3 : Kept (((w.alloc (.cells #[.int .i64 m, .int .i64 n, fv] 89)).alloc (.cells #[.int .i64 i, .int .i64 j] 98)).alloc (.cells #[.int .i64 0, .int .i64 0] 98)) (((((w.alloc (.cells #[.int .i64 m, .int .i64 n, fv] 89)).alloc (.cells #[.int .i64 i, .int .i64 j] 98)).alloc (.cells #[.int .i64 0, .int .i64 0] 98)).alloc (.cells #[.int .i64 i, .int .i64 ((j : Int) + 1), .int .i64 ((i : Int) + 1), .int .i64 j, .int .i64 ((i : Int) + 1), .int .i64 ((j : Int) + 1)] 125)).alloc (.cells #[.int .i64 0, .int .i64 0] 98)) := ((Kept.refl _).alloc _).alloc _
  have hK0 : Kept w (((((w.alloc (.cells #[.int .i64 m, .int .i64 n, fv] 89)).alloc (.cells #[.int .i64 i, .int .i64 j] 98)).alloc (.cells #[.int .i64 0, .int .i64 0] 98)).alloc (.cells #[.int .i64 i, .int .i64 ((j : Int) + 1), .int .i64 ((i : Int) + 1), .int .i64 j, .int .i64 ((i : Int) + 1), .int .i64 ((j : Int) + 1)] 125)).alloc (.cells #[.int .i64 0, .int .i64 0] 98)) := ((Kept.refl w).alloc _).trans hk1
  have hR1 := hk1.row hW1
  have hR3 := hk3.row hW3
  have i0 : ∀ (a b c d e f : Value) (W : World), (Instr.index 125 (.agg #[a, b, c, d, e, f]) (.int .i64 0)).run Try.prog W = .ok (.agg #[a, b]) W := fun _ _ _ _ _ _ _ => by kernel_rfl
  have i1 : ∀ (a b c d e f : Value) (W : World), (Instr.index 125 (.agg #[a, b, c, d, e, f]) (.int .i64 1)).run Try.prog W = .ok (.agg #[c, d]) W := fun _ _ _ _ _ _ _ => by kernel_rfl
  have i2 : ∀ (a b c d e f : Value) (W : World), (Instr.index 125 (.agg #[a, b, c, d, e, f]) (.int .i64 2)).run Try.prog W = .ok (.agg #[e, f]) W := fun _ _ _ _ _ _ _ => by kernel_rfl
  simp only [nblk_alloc] at hR1 hR3 hW5
  have HR1 := Lib.hid hR1
  have HR3 := Lib.hid hR3
  have HR5 := Lib.hid hW5
  clear hW1 hW3 hW5 hk1 hk3 hR1 hR3
  go_enter Try.func77, Try.ntmps77
  go_wp2_with fail
  have hR1 := HR1.out
  have hR3 := HR3.out
  have hR5 := HR5.out
  clear HR1 HR3 HR5
  generalize ((((w.alloc (.cells #[.int .i64 m, .int .i64 n, fv] 89)).alloc (.cells #[.int .i64 i, .int .i64 j] 98)).alloc (.cells #[.int .i64 0, .int .i64 0] 98)).alloc (.cells #[.int .i64 i, .int .i64 ((j : Int) + 1), .int .i64 ((i : Int) + 1), .int .i64 j, .int .i64 ((i : Int) + 1), .int .i64 ((j : Int) + 1)] 125)).alloc (.cells #[.int .i64 0, .int .i64 0] 98) = W0 at *
  obtain ⟨rb, HRB⟩ : ∃ rb, Hid (rb = w.heap.size + 1 + 1) := ⟨_, rfl⟩
  obtain ⟨bb, HBB⟩ : ∃ bb, Hid (bb = w.heap.size + 1 + 1 + 1 + 1) := ⟨_, rfl⟩
  rw [← HRB.out] at hR3
  rw [← HBB.out] at hR5
  rw [← HBB.out, ← HRB.out]
  obtain ⟨g, HG⟩ : ∃ g, Hid (g = w.heap.size) := ⟨_, rfl⟩
  have hgb : g ≠ bb := by rw [HG.out, HBB.out]; omega
  have hgr : g ≠ rb := by rw [HG.out, HRB.out]; omega
  have hrb : rb ≠ bb := by rw [HRB.out, HBB.out]; omega
  have hwb : w.heap.size ≤ bb := by rw [HBB.out]; omega
  have hwr : w.heap.size ≤ rb := by rw [HRB.out]; omega
  rw [← HG.out] at hR1 ⊢
  clear HRB HBB HG
  have hB0 : bsteps m n L i j 0 = (0, 0) := rfl
  go_loopg [33] 3 (fun gg s33 wr => ∃ (k bx by' : Nat), k ≤ 3 ∧ gg = 3 - k ∧ s33 = .int .i64 k ∧ Hid (bsteps m n L i j k = (bx, by')) ∧ Hid ((k ≤ 0 → bx = 0 ∧ by' = 0) ∧ (1 ≤ k → ¬ (bx = 0 ∧ by' = 0))) ∧ Kept w wr ∧ wr.rowIs g 89 3 (fun t => if t = 0 then .int .i64 m else if t = 1 then .int .i64 n else fv) ∧ wr.rowIs rb 98 2 (fun _ => .int .i64 0) ∧ wr.rowIs bb 98 2 (fun t => if t = 0 then .int .i64 bx else .int .i64 by'))
  case atStart => exact ⟨0, 0, 0, by omega, rfl, rfl, hB0, ⟨fun _ => ⟨rfl, rfl⟩, fun h => absurd h (by omega)⟩, hK0, hR1, hR3, hR5.congr (fun t _ => by show _ = if t = 0 then _ else _; split <;> rfl)⟩
  case round =>
    obtain ⟨k, bx, by', hk, rfl, hs, hB, hZ, hK, hR1, hR3, hR5⟩ := hrel
    clear hB0 hK0
    have d0 := hR1.cell (i := 0) (by omega)
    have d1 := hR1.cell (i := 1) (by omega)
    have d3 := hR5.cell (i := 0) (by omega)
    have d4 := hR5.cell (i := 1) (by omega)
    simp only [if_true, Nat.one_ne_zero, if_false] at d0 d1 d3 d4
    by_cases h3 : k < 3
    · have hb := bsteps_in (m := m) (n := n) (L := L) (i := i) (j := j) k
      rw [hB.out] at hb
      have HBI := Lib.hid hb
      clear hb
      have hkk : k = 0 ∨ k = 1 ∨ k = 2 := by omega
      rcases hkk with rfl | rfl | rfl
      · have hs' : u33 = Value.int .i64 0 := hs
        subst hs'
        clear hs
        have hkA := (Kept.refl wr).alloc (.cells #[.int .i64 (i : Int), .int .i64 ((j : Int) + 1)] 98)
        obtain ⟨p0, p1⟩ := box2 wr (.int .i64 (i : Int)) (.int .i64 ((j : Int) + 1)) 98
        have f0 := hkA.cellSome d0
        have f1 := hkA.cellSome d1
        have f3 := hkA.cellSome d3
        have f4 := hkA.cellSome d4
        have g1 := hkA.row hR1
        have g3 := hkA.row hR3
        have g5 := hkA.row hR5
        have hK2 := hK.trans hkA
        have hstep : bsteps m n L i j 1 = bstep m n L (bx, by') (i, j + 1) := by show bstep m n L (bsteps m n L i j 0) (cand i j 0) = _; rw [hB.out]; rfl
        have HST := Lib.hid hstep
        clear hstep d0 d1 d3 d4 hkA hR1 hR3 hR5 hK hB
        go_wp2_with fail
        obtain ⟨gp, HGP⟩ : ∃ gp, Hid (gp = wr.heap.size) := ⟨_, rfl⟩
        rw [← HGP.out] at p0 p1 ⊢
        generalize wr.alloc (.cells #[.int .i64 (i : Int), .int .i64 ((j : Int) + 1)] 98) = W at *
        have fz0 := g5.frozen 0
        have fz1 := g5.frozen 1
        have hx : i < m := by omega
        have x1 : decide ((i : Int) < (m : Int)) = true := decide_eq_true (by omega)
        have x2 : (i : Int) < (m : Int) := by omega
        have hy : j + 1 < n := by omega
        have y1 : decide (((j : Int) + 1) < (n : Int)) = true := decide_eq_true (by omega)
        have y2 : ((j : Int) + 1) < (n : Int) := by omega
        have y3 : (0 : Int) ≤ (i : Int) := by omega
        have y4 : (0 : Int) ≤ ((j : Int) + 1) := by omega
        obtain ⟨l1, l2⟩ := HL.out (i) (j + 1) hx hy (by omega) (by omega) (by omega) (by omega) (by omega)
        have m1 := hK2.cellSome l1
        have m2 := hK2.cellSome l2
        clear l1 l2
        have hz := hZ.out.1 (by omega)
        have hst : bstep m n L (bx, by') (i, j + 1) = (i, j + 1) := if_pos ⟨hx, hy, Or.inl (by rw [hz.1, hz.2])⟩
        have HS2 := Lib.hid (HST.out.trans hst)
        have heq := pair_eq bx by' hz
        clear HST hst hz HBI hZ HL
        go_quiet (fail)
        go_wp2_with fail
        go_roundg (3 - 1)
        case measure => omega
        case rel => exact ⟨1, i, j + 1, by omega, rfl, by go_num, HS2.out, ⟨fun h => absurd h (by omega), fun _ => by omega⟩, ((hK2.drewN nq).setCell (p := ⟨bb, 0, none⟩) hwb _).setCell (p := ⟨bb, 1, none⟩) hwb _, ((((Kept.refl W).drewN nq).row g1).setOther (a := ⟨bb, 0, none⟩) hgb _).setOther (a := ⟨bb, 1, none⟩) hgb _, ((((Kept.refl W).drewN nq).row g3).setOther (a := ⟨bb, 0, none⟩) hrb _).setOther (a := ⟨bb, 1, none⟩) hrb _, pair_set (((Kept.refl W).drewN nq).row g5) _ _⟩
      · have hs' : u33 = Value.int .i64 1 := hs
        subst hs'
        clear hs
        have hkA := (Kept.refl wr).alloc (.cells #[.int .i64 ((i : Int) + 1), .int .i64 (j : Int)] 98)
        obtain ⟨p0, p1⟩ := box2 wr (.int .i64 ((i : Int) + 1)) (.int .i64 (j : Int)) 98
        have f0 := hkA.cellSome d0
        have f1 := hkA.cellSome d1
        have f3 := hkA.cellSome d3
        have f4 := hkA.cellSome d4
        have g1 := hkA.row hR1
        have g3 := hkA.row hR3
        have g5 := hkA.row hR5
        have hK2 := hK.trans hkA
        have hstep : bsteps m n L i j 2 = bstep m n L (bx, by') (i + 1, j) := by show bstep m n L (bsteps m n L i j 1) (cand i j 1) = _; rw [hB.out]; rfl
        have HST := Lib.hid hstep
        clear hstep d0 d1 d3 d4 hkA hR1 hR3 hR5 hK hB
        go_wp2_with fail
        obtain ⟨gp, HGP⟩ : ∃ gp, Hid (gp = wr.heap.size) := ⟨_, rfl⟩
        rw [← HGP.out] at p0 p1 ⊢
        generalize wr.alloc (.cells #[.int .i64 ((i : Int) + 1), .int .i64 (j : Int)] 98) = W at *
        have fz0 := g5.frozen 0
        have fz1 := g5.frozen 1
        have hx : ¬ i + 1 < m := by omega
        have x1 : decide (((i : Int) + 1) < (m : Int)) = false := decide_eq_false (by omega)
        have x2 : ¬ ((i : Int) + 1) < (m : Int) := by omega
        have hst : bstep m n L (bx, by') (i + 1, j) = (bx, by') := if_neg (fun h => hx h.1)
        have HS2 := Lib.hid (HST.out.trans hst)
        have HZ2 : Hid ((2 ≤ 0 → bx = 0 ∧ by' = 0) ∧ (1 ≤ 2 → ¬ (bx = 0 ∧ by' = 0))) := ⟨fun h => absurd h (by omega), fun _ => hZ.out.2 (by omega)⟩
        clear HST hst HBI hZ HL
        go_quiet (fail)
        go_wp2_with fail
        go_roundg (3 - 2)
        case measure => omega
        case rel => exact ⟨2, bx, by', by omega, rfl, by go_num, HS2.out, HZ2.out, hK2.drewN nq, ((Kept.refl W).drewN nq).row g1, ((Kept.refl W).drewN nq).row g3, ((Kept.refl W).drewN nq).row g5⟩
      · have hs' : u33 = Value.int .i64 2 := hs
        subst hs'
        clear hs
        have hkA := (Kept.refl wr).alloc (.cells #[.int .i64 ((i : Int) + 1), .int .i64 ((j : Int) + 1)] 98)
        obtain ⟨p0, p1⟩ := box2 wr (.int .i64 ((i : Int) + 1)) (.int .i64 ((j : Int) + 1)) 98
        have f0 := hkA.cellSome d0
        have f1 := hkA.cellSome d1
        have f3 := hkA.cellSome d3
        have f4 := hkA.cellSome d4
        have g1 := hkA.row hR1
        have g3 := hkA.row hR3
        have g5 := hkA.row hR5
        have hK2 := hK.trans hkA
        have hstep : bsteps m n L i j 3 = bstep m n L (bx, by') (i + 1, j + 1) := by show bstep m n L (bsteps m n L i j 2) (cand i j 2) = _; rw [hB.out]; rfl
        have HST := Lib.hid hstep
        clear hstep d0 d1 d3 d4 hkA hR1 hR3 hR5 hK hB
        go_wp2_with fail
        obtain ⟨gp, HGP⟩ : ∃ gp, Hid (gp = wr.heap.size) := ⟨_, rfl⟩
        rw [← HGP.out] at p0 p1 ⊢
        generalize wr.alloc (.cells #[.int .i64 ((i : Int) + 1), .int .i64 ((j : Int) + 1)] 98) = W at *
        have fz0 := g5.frozen 0
        have fz1 := g5.frozen 1
        have hx : ¬ i + 1 < m := by omega
        have x1 : decide (((i : Int) + 1) < (m : Int)) = false := decide_eq_false (by omega)
        have x2 : ¬ ((i : Int) + 1) < (m : Int) := by omega
        have hst : bstep m n L (bx, by') (i + 1, j + 1) = (bx, by') := if_neg (fun h => hx h.1)
        have HS2 := Lib.hid (HST.out.trans hst)
        have HZ2 : Hid ((3 ≤ 0 → bx = 0 ∧ by' = 0) ∧ (1 ≤ 3 → ¬ (bx = 0 ∧ by' = 0))) := ⟨fun h => absurd h (by omega), fun _ => hZ.out.2 (by omega)⟩
        clear HST hst HBI hZ HL
        go_quiet (fail)
        go_wp2_with fail
        go_roundg (3 - 3)
        case measure => omega
        case rel => exact ⟨3, bx, by', by omega, rfl, by go_num, HS2.out, HZ2.out, hK2.drewN nq, ((Kept.refl W).drewN nq).row g1, ((Kept.refl W).drewN nq).row g3, ((Kept.refl W).drewN nq).row g5⟩
    · obtain rfl : k = 3 := by omega
      have hs' : u33 = Value.int .i64 3 := hs
      subst hs'
      clear hs
      have d5 := hR3.cell (i := 0) (by omega)
      have d6 := hR3.cell (i := 1) (by omega)
      have fz0 := hR3.frozen 0
      have fz1 := hR3.frozen 1
      have hfin : nxt m n L i j = (bx, by') := hB.out
      have HFIN := Lib.hid hfin
      have hKr : Kept w ((wr.setCell ⟨rb, 0, none⟩ (.int .i64 bx)).setCell ⟨rb, 1, none⟩ (.int .i64 by')) := (hK.setCell (p := ⟨rb, 0, none⟩) hwr _).setCell (p := ⟨rb, 1, none⟩) hwr _
      have hrr := pair_set hR3 (.int .i64 bx) (.int .i64 by')
      have r0 := hrr.cell (i := 0) (by omega)
      have r1 := hrr.cell (i := 1) (by omega)
      simp only [if_true, Nat.one_ne_zero, if_false] at r0 r1
      clear hfin hrr hB HL hZ
      go_wp2_with fail
      refine bodyPost_ret (v := .agg #[.int .i64 bx, .int .i64 by']) (by simp [results, Try.results77, go_sem, r0, r1]) rfl ⟨?_, hKr⟩
      rw [HFIN.out]
end Go.Proofs.Ytomnjcjipdnnfaa
