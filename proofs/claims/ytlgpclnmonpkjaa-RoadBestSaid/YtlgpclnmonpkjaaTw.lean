/-
  Package road: plan.
-/
import Derived.Test.YtlgpclnmonpkjaaTv
namespace Go.Proofs.Ytlgpclnmonpkjaa
open Go.RowKit Go.Deep

/-- the first of the least -/
def bestH (f : Nat → Nat) : Nat → Nat
  | 0 => 0
  | h + 1 => if f h < f (bestH f h) then h else bestH f h
theorem bestH_lt (f : Nat → Nat) : ∀ h, 1 ≤ h → bestH f h < h := by
  intro h
  induction h with
  | zero => intro e; omega
  | succ h ih =>
    intro _
    simp only [bestH]
    split
    · omega
    · by_cases e : h = 0
      · subst e; simp [bestH]
      · have := ih (by omega); omega
/-- the places after i calls -/
def stP (C : Nat → Nat) (pr : Nat → (Nat → Nat) → Nat → Nat) (k : Nat) (S : Nat → Nat) : Nat → (Nat → Nat)
  | 0 => S
  | i + 1 => sentP C i (stP C pr k S i) (bestH (pr i (stP C pr k S i)) k)
def plF (C : Nat → Nat) (pr : Nat → (Nat → Nat) → Nat → Nat) (k : Nat) (S : Nat → Nat) (i : Nat) : Nat := bestH (pr i (stP C pr k S i)) k
theorem stP_place {R : Road} {C : Nat → Nat} {pr : Nat → (Nat → Nat) → Nat → Nat} {k m : Nat} {S : Nat → Nat} (hC : ∀ i, i < m → C i < R.n) (hS : ∀ i, i < 3 → S i < R.n) : ∀ i, i ≤ m → ∀ j, j < 3 → stP C pr k S i j < R.n := by
  intro i
  induction i with
  | zero => intro _; exact hS
  | succ i ih =>
    intro hi j hj
    simp only [stP, sentP]
    split
    · exact hC i (by omega)
    · exact ih (by omega) j hj
def natsL (f : Nat → Nat) (n : Nat) : List Value := (List.range n).map fun i => Value.int .i64 ((f i : Nat) : Int)
theorem natsL_succ (f : Nat → Nat) (n : Nat) : natsL f (n + 1) = natsL f n ++ [.int .i64 ((f n : Nat) : Int)] := by simp [natsL, List.range_succ]
theorem IntsAt.of_natsL {w : World} {base : Nat} {v : Value} {n : Nat} {f : Nat → Nat} (h : w.ownsRow base 3 1 v n (natsL f n)) : IntsAt w v n (fun i => ((f i : Nat) : Int)) :=
  (CellsAt.of_own h).congr fun i hi => by simp [natsL, List.getD, hi]
/-- a row of ints is not touched by stores to a row of another type -/
theorem ints_set {w : World} {B g i : Nat} {t : TypeId} {n k : Nat} {f : Nat → Value} {v : Value} {xs : List Value} (h : w.ownsRow B 3 1 v k xs) (hr : w.rowIs g t n f) (ht : t ≠ 3) (u : Value) : (w.setCell ⟨g, i, none⟩ u).ownsRow B 3 1 v k xs :=
  own_keptY h ((KeptX.refl (fun b => b = g) w).setCell (p := ⟨g, i, none⟩) (Or.inl rfl) u) (fun b c ff hb _ hS => by
    subst hS
    exact ht (row_type hr hb))
theorem row_grown {w w' : World} {g B n k : Nat} {t : TypeId} {f : Nat → Value} {v : Value} {xs : List Value} (hr : w.rowIs g t n f) (ho : w.ownsRow B 3 1 v k xs) (ht : t ≠ 3) (hg : w.grownBy w' v.ownBlock) : w'.rowIs g t n f := by
  refine hr.of_block (hg.block g hr.lt ?_)
  intro e
  rcases ho.2 with ⟨rfl, _⟩ | ⟨g2, cap, cur, rfl, _, h3, _⟩
  · cases e
  · have e1 : g = g2 := by simpa [Value.ownBlock] using e
    subst e1
    exact ht (row_type hr h3)
theorem fill4 {w : World} {G B k : Nat} {a0 b0 c0 d0 v : Value} {xs : List Value} (hr : w.rowIs G 103 4 (bx4 a0 b0 c0 d0)) (hO : w.ownsRow B 3 1 v k xs) (a b c d : Value) :
    ((((w.setCell ⟨G, 0, none⟩ a).setCell ⟨G, 1, none⟩ b).setCell ⟨G, 2, none⟩ c).setCell ⟨G, 3, none⟩ d).rowIs G 103 4 (bx4 a b c d) ∧
    ((((w.setCell ⟨G, 0, none⟩ a).setCell ⟨G, 1, none⟩ b).setCell ⟨G, 2, none⟩ c).setCell ⟨G, 3, none⟩ d).ownsRow B 3 1 v k xs := by
  have h1 := hr.set 0 a
  have h2 := h1.set 1 b
  have h3 := h2.set 2 c
  have h4 := h3.set 3 d
  have n1 : 103 ≠ 3 := by decide
  exact ⟨h4.congr (fun i hi => by
    have : i = 0 ∨ i = 1 ∨ i = 2 ∨ i = 3 := by omega
    rcases this with rfl | rfl | rfl | rfl <;> simp [bx4]), ints_set (ints_set (ints_set (ints_set hO hr n1 a) h1 n1 b) h2 n1 c) h3 n1 d⟩
def PlanPost (w : World) (m : Nat) (F : Nat → Nat) (e : Ending) (w' : World) : Prop := ∃ v, e = .returned v ∧ w'.ownsRow w.heap.size 3 1 v m (natsL F m) ∧ Kept w w'
set_option maxRecDepth 100000 in
set_option maxHeartbeats 8000000 in
theorem planL_any (w : World) (v : Value) (R : Road) (ok : R.Ok) (k m : Nat) (C : Nat → Nat) (S : Nat → Nat) (M : Nat) (s0 : Nat) (h0 : Hid (s0 = 0)) (hP : PlansAt w v R k m C s0 S M) (hm : m ≤ 100) (hk1 : 1 ≤ k) (hk3 : k ≤ 3) (hC : ∀ i, i < m → C i < R.n) (hS : ∀ i, i < 3 → S i < R.n) (pr : Nat → (Nat → Nat) → Nat → Nat)
    (PR : ∀ W s P h, PlansAt W v R k m C s0 S M → s < m → (∀ i, i < 3 → P i < R.n) → h < k → Calls Try.prog 61 #[v, StgV s P, .int .i64 (h : Int)] W fun e w' => e = .returned (.int .i64 ((pr s P h : Nat) : Int)) ∧ Kept W w') :
    Calls Try.prog 60 #[v, .func (.func 61) #[v] #[]] w (PlanPost w m (plF C pr k S)) := by
  obtain ⟨i0, hi0, hz0, hz1, hz2⟩ := info_parts Try.info3
  have hP0 := hP
  obtain ⟨b0, o0, c0, b1, o1, c1, b2, o2, c2, ca, cb, co, ccap, rfl, _, hca, hc⟩ := hP.open ok
  have PR2 := Lib.hid PR
  have SN := Lib.hid (fun W s P h (hW : PlansAt W (.agg #[.slice (some ⟨b0, o0, none⟩) R.n c0, .slice (some ⟨b1, o1, none⟩) R.n c1, .slice (some ⟨b2, o2, none⟩) R.n c2, .slice ca m ccap, .int .i64 (k : Int), .int .i64 (s0 : Int), .int .i64 (S 0 : Int), .int .i64 (S 1 : Int), .int .i64 (S 2 : Int), .map (some M)]) R k m C s0 S M) (hs : s < m) (hh : h < k) => sent_any W _ R ok k m C s0 S M hW hm s P h hs (by omega))
  unfold StgV at PR2 SN
  obtain ⟨n0, HN0⟩ : ∃ n0, w.heap.size = n0 := ⟨_, rfl⟩
  obtain ⟨W1, hW1, hsz, q0, q1, q2, q3, q4, q5, q6, q7, q8, q9, hK⟩ := newbox10 w n0 HN0 (.slice (some ⟨b0, o0, none⟩) R.n c0) (.slice (some ⟨b1, o1, none⟩) R.n c1) (.slice (some ⟨b2, o2, none⟩) R.n c2) (.slice ca m ccap) (.int .i64 (k : Int)) (.int .i64 (s0 : Int)) (.int .i64 (S 0 : Int)) (.int .i64 (S 1 : Int)) (.int .i64 (S 2 : Int)) (.map (some M)) 106
  have hrow := box4row W1 (n0 + 1) hsz (.int .i64 (s0 : Int)) (.int .i64 ((S 0 : Nat) : Int)) (.int .i64 ((S 1 : Nat) : Int)) (.int .i64 ((S 2 : Nat) : Int)) 103
  obtain ⟨W2, hW2, hsz2, y0, y1, y2, y3, hK1⟩ := newbox4 W1 (n0 + 1) hsz (.int .i64 (s0 : Int)) (.int .i64 ((S 0 : Nat) : Int)) (.int .i64 ((S 1 : Nat) : Int)) (.int .i64 ((S 2 : Nat) : Int)) 103
  rw [hW2] at hrow
  have hP1 := hP0.kept hK
  have hg1 : W1.heap.size ≤ n0 + 1 := by omega
  have hwn : w.heap.size ≤ n0 + 1 := by omega
  have hgn : n0 + 1 ≤ W1.heap.size := by omega
  clear hc hP hP0 PR y0 y1 y2 y3
  go_enter Try.func60, Try.ntmps60
  go_wp2_with fail
  obtain ⟨np, HNP⟩ : ∃ np, n0 + 1 = np := ⟨_, rfl⟩
  rw [HNP] at hrow hg1 hwn hgn ⊢
  clear hW1 hW2 hsz hsz2 HNP
  go_loopg [5] m (fun g s5 wr => ∃ (i : Nat) (P : Nat → Nat), i ≤ m ∧ g = m - i ∧ Hid (P = stP C pr k S i) ∧ (∀ j, j < 3 → P j < R.n) ∧ Kept W1 wr ∧ wr.ownsRow np 3 1 s5 i (natsL (plF C pr k S) i) ∧ wr.rowIs np 103 4 (bx4 (.int .i64 ((i : Nat) : Int)) (.int .i64 ((P 0 : Nat) : Int)) (.int .i64 ((P 1 : Nat) : Int)) (.int .i64 ((P 2 : Nat) : Int))))
  case atStart => exact ⟨s0, S, by have := h0.out; omega, by have := h0.out; omega, by show _ = _; rw [h0.out]; rfl, hS, hK1, by rw [h0.out]; exact World.ownsRow_nil _ _ _ _, hrow⟩
  case round =>
    clear hrow hK1
    obtain ⟨i, P, hi, rfl, hPs, hPb, hKr, hO, hrow⟩ := hrel
    obtain ⟨z0, z1, z2, z3, z4, z5, z6, z7, z8, z9, _⟩ := keep10 q0 q1 q2 q3 q4 q5 q6 q7 q8 q9 hKr
    have y0 : wr.cell? ⟨np, 0, none⟩ = some (.int .i64 (i : Int)) := hrow.cell (i := 0) (by omega)
    have y1 : wr.cell? ⟨np, 1, none⟩ = some (.int .i64 ((P 0 : Nat) : Int)) := hrow.cell (i := 1) (by omega)
    have y2 : wr.cell? ⟨np, 2, none⟩ = some (.int .i64 ((P 1 : Nat) : Int)) := hrow.cell (i := 2) (by omega)
    have y3 : wr.cell? ⟨np, 3, none⟩ = some (.int .i64 ((P 2 : Nat) : Int)) := hrow.cell (i := 3) (by omega)
    obtain ⟨va, vcap, rfl⟩ := own_shape hO
    by_cases hlt : i < m
    · obtain rfl := hca (by omega)
      have m1 : (i : Int) < (m : Int) := by omega
      have PR3 := Lib.hid (fun W h hW hh => PR2.out W i P h hW hlt hPb hh)
      have SN2 := Lib.hid (fun W h hW hh => SN.out W i P h hW hlt hh)
      have hPlr := hP1.kept hKr
      go_wp2_with fail
      go_loopg [7, 19] k (fun g s7 s19 wi => ∃ h : Nat, h ≤ k ∧ g = k - h ∧ s19 = .int .i64 h ∧ s7 = .int .i64 ((bestH (pr i P) h : Nat) : Int) ∧ Kept wr wi)
      case atStart => exact ⟨0, Nat.zero_le _, rfl, rfl, rfl, Kept.refl _⟩
      case round =>
        obtain ⟨h, hh, rfl, rfl, rfl, hKi⟩ := hrel
        obtain ⟨x0, x1, x2, x3, _⟩ := keep4 y0 y1 y2 y3 hKi
        by_cases hlt2 : h < k
        · have m2 : (h : Int) < (k : Int) := by omega
          have hbl : bestH (pr i P) h < k := by
            by_cases e : h = 0
            · subst e; simp [bestH]; omega
            · have := bestH_lt (pr i P) h (by omega); omega
          have hPli := hPlr.kept hKi
          have hbs := Lib.hid (show bestH (pr i P) (h + 1) = if pr i P h < pr i P (bestH (pr i P) h) then h else bestH (pr i P) h from rfl)
          obtain ⟨f, HF⟩ : ∃ f, Hid (f = bestH (pr i P) h) := ⟨_, rfl⟩
          rw [← HF.out] at hbl hbs ⊢
          by_cases hlt3 : pr i P h < pr i P f
          · have m3 : ((pr i P h : Nat) : Int) < ((pr i P f : Nat) : Int) := by omega
            have hbs2 : Hid (bestH (pr i P) (h + 1) = h) := by show _ = _; rw [hbs.out, if_pos hlt3]
            clear hbs HF
            go_wp2_with fail
            go_region_held3 (fun w' => w'.cell? ⟨np, 0, none⟩ = some (.int .i64 i) ∧ w'.cell? ⟨np, 1, none⟩ = some (.int .i64 ((P 0 : Nat) : Int)) ∧ w'.cell? ⟨np, 2, none⟩ = some (.int .i64 ((P 1 : Nat) : Int)) ∧ w'.cell? ⟨np, 3, none⟩ = some (.int .i64 ((P 2 : Nat) : Int)) ∧ Kept wr w')
              (exact keep4 x0 x1 x2 x3 (by repeat (first | assumption | exact Kept.refl _ | apply Kept.drew | apply Kept.drewN | apply Kept.alloc | refine Kept.trans ?_ (by assumption))))
              (first | (go_at_call 61; refine (PR3.out _ _ (hPli.kept (by repeat (first | assumption | exact Kept.refl _ | apply Kept.drew | apply Kept.drewN | apply Kept.alloc | refine Kept.trans ?_ (by assumption)))) (by first | exact hlt2 | exact hbl)).mono ?_; rintro e w' ⟨rfl, hk1⟩))
            all_goals
              go_wp2_with fail
              go_roundg (k - (h + 1))
              case measure => omega
              case rel => exact ⟨h + 1, by omega, rfl, by go_num, by rw [hbs2.out], hKi.trans (by repeat (first | assumption | exact Kept.refl _ | apply Kept.drew | apply Kept.drewN | apply Kept.alloc | refine Kept.trans ?_ (by assumption)))⟩
          · have m3 : ¬ ((pr i P h : Nat) : Int) < ((pr i P f : Nat) : Int) := by omega
            have hbs2 : Hid (bestH (pr i P) (h + 1) = f) := by show _ = _; rw [hbs.out, if_neg hlt3]
            clear hbs HF
            go_wp2_with fail
            go_region_held3 (fun w' => w'.cell? ⟨np, 0, none⟩ = some (.int .i64 i) ∧ w'.cell? ⟨np, 1, none⟩ = some (.int .i64 ((P 0 : Nat) : Int)) ∧ w'.cell? ⟨np, 2, none⟩ = some (.int .i64 ((P 1 : Nat) : Int)) ∧ w'.cell? ⟨np, 3, none⟩ = some (.int .i64 ((P 2 : Nat) : Int)) ∧ Kept wr w')
              (exact keep4 x0 x1 x2 x3 (by repeat (first | assumption | exact Kept.refl _ | apply Kept.drew | apply Kept.drewN | apply Kept.alloc | refine Kept.trans ?_ (by assumption))))
              (first | (go_at_call 61; refine (PR3.out _ _ (hPli.kept (by repeat (first | assumption | exact Kept.refl _ | apply Kept.drew | apply Kept.drewN | apply Kept.alloc | refine Kept.trans ?_ (by assumption)))) (by first | exact hlt2 | exact hbl)).mono ?_; rintro e w' ⟨rfl, hk1⟩))
            all_goals
              go_wp2_with fail
              go_roundg (k - (h + 1))
              case measure => omega
              case rel => exact ⟨h + 1, by omega, rfl, by go_num, by rw [hbs2.out], hKi.trans (by repeat (first | assumption | exact Kept.refl _ | apply Kept.drew | apply Kept.drewN | apply Kept.alloc | refine Kept.trans ?_ (by assumption)))⟩
        · obtain rfl : h = k := by omega
          have hO2 := own_kept hO hKi
          have hrow2 := hKi.row hrow
          have hKw2 := hKr.trans hKi
          have hPl2 := hP1.kept hKw2
          have hbl := bestH_lt (pr i P) h hk1
          have hsz : np ≤ wr.heap.size := Nat.le_trans hgn hKw2.size
          have hpl := Lib.hid (show plF C pr h S i = bestH (pr i P) h by unfold plF; rw [hPs.out])
          obtain ⟨f, HF⟩ : ∃ f, Hid (f = bestH (pr i P) h) := ⟨_, rfl⟩
          rw [← HF.out] at hpl hbl ⊢
          have hsn : Hid (sentP C i P f = stP C pr h S (i + 1)) := by show _ = _; rw [HF.out, hPs.out]; rfl
          have SN3 := Lib.hid (fun W hW => SN2.out W f hW hbl)
          obtain ⟨Q, HQ⟩ : ∃ Q, Hid (Q = sentP C i P f) := ⟨_, rfl⟩
          rw [← HQ.out] at SN3 hsn
          have hQb : ∀ j, j < 3 → Q j < R.n := fun j hj => by
            rw [HQ.out]
            unfold sentP
            split
            · exact hC i hlt
            · exact hPb j hj
          clear x0 x1 x2 x3 hO hrow y0 y1 y2 y3 z0 z1 z2 z3 z4 z5 z6 z7 z8 z9 HF HQ
          go_wp2_with (first | (at_builtin; refine wpList_append_own _ rfl _ _ 22 rfl np 3 i0 (.int .i64 0) 1 8 Try.underlying22 hi0 hz0 hz1 hz2 rfl (by decide) _ _ _ rfl (hO2.alloc _) ⟨_, 0, none⟩ 1 1 [.int .i64 (f : Int)] rfl rfl ?c1 ?c2 ?c3 ?c4 ?c5 ?_))
          case c1 => exact cell_one_new _ _ _
          case c2 => simp [Value.oneCell']
          case c3 => unfold maxLen; omega
          case c4 => omega
          case c5 => simp; omega
          intro ov' w5 hO5 hgr _
          have hKA := hKw2.alloc (.cells #[.int .i64 (f : Int)] 3)
          have hK5 : Kept W1 w5 := hKA.grew hgr (hO2.alloc _) hg1
          have hrow5 := row_grown (hrow2.of_block (blk_alloc_lt _ _ _ hrow2.lt)) (hO2.alloc _) (by decide) hgr
          have hO6 : w5.ownsRow np 3 1 ov' (i + 1) (natsL (plF C pr h S) (i + 1)) := by
            rw [natsL_succ, hpl.out]; exact hO5
          obtain ⟨z0, z1, z2, z3, z4, z5, z6, z7, z8, z9, _⟩ := keep10 q0 q1 q2 q3 q4 q5 q6 q7 q8 q9 hK5
          have y0 : w5.cell? ⟨np, 0, none⟩ = some (.int .i64 (i : Int)) := hrow5.cell (i := 0) (by omega)
          have y1 : w5.cell? ⟨np, 1, none⟩ = some (.int .i64 ((P 0 : Nat) : Int)) := hrow5.cell (i := 1) (by omega)
          have y2 : w5.cell? ⟨np, 2, none⟩ = some (.int .i64 ((P 1 : Nat) : Int)) := hrow5.cell (i := 2) (by omega)
          have y3 : w5.cell? ⟨np, 3, none⟩ = some (.int .i64 ((P 2 : Nat) : Int)) := hrow5.cell (i := 3) (by omega)
          have hPl5 := hP1.kept hK5
          obtain ⟨va2, vcap2, rfl⟩ := own_shape hO6
          clear hO5 hgr hO2 hrow2 hKA hPl2 hPlr
          go_wp2_with (first | (go_at_call 78; refine (SN3.out _ hPl5).mono ?_; rintro e w6 ⟨rfl, hk6⟩; obtain ⟨u0, u1, u2, u3, _⟩ := keep4 y0 y1 y2 y3 hk6; have hrow6 := hk6.row hrow5; have g0 := hrow6.frozen 0; have g1 := hrow6.frozen 1; have g2 := hrow6.frozen 2; have g3 := hrow6.frozen 3))
          obtain ⟨hrowF, hOF⟩ := fill4 hrow6 (own_kept hO6 hk6) (.int .i64 ((i : Int) + 1)) (.int .i64 ((Q 0 : Nat) : Int)) (.int .i64 ((Q 1 : Nat) : Int)) (.int .i64 ((Q 2 : Nat) : Int))
          have hKF := ((((hK5.trans hk6).setCell (p := ⟨np, 0, none⟩) hg1 (.int .i64 ((i : Int) + 1))).setCell (p := ⟨np, 1, none⟩) hg1 (.int .i64 ((Q 0 : Nat) : Int))).setCell (p := ⟨np, 2, none⟩) hg1 (.int .i64 ((Q 1 : Nat) : Int))).setCell (p := ⟨np, 3, none⟩) hg1 (.int .i64 ((Q 2 : Nat) : Int))
          go_roundg (m - (i + 1))
          case measure => omega
          case rel => exact ⟨i + 1, Q, by omega, rfl, hsn.out, hQb, hKF, hOF, hrowF⟩
    · obtain rfl : i = m := by have := h0.out; omega
      go_wp2_with fail
      go_ret
      exact ⟨_, rfl, own_base hO hwn, hK.trans hKr⟩
end Go.Proofs.Ytlgpclnmonpkjaa
