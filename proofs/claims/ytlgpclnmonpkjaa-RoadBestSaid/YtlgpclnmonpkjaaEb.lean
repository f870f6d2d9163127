/-
  Package road: plan by leastWith, with the map of what is known.
  Package road: Plan; no plan costs less than the least.
-/
import Derived.Test.YtlgpclnmonpkjaaEa
namespace Go.Proofs.Ytlgpclnmonpkjaa
open Go.RowKit Go.Deep Go.Maps

theorem keepM4 {w w' : World} {R : Road} {C : Nat → Nat} {k m M : Nat} {a1 : Addr} {v1 : Value} {a2 : Addr} {v2 : Value} {a3 : Addr} {v3 : Value} {a4 : Addr} {v4 : Value} (h1 : w.cell? a1 = some v1) (h2 : w.cell? a2 = some v2) (h3 : w.cell? a3 = some v3) (h4 : w.cell? a4 = some v4) (hM : Memo w R C k m M) (hk : KM M w w') : w'.cell? a1 = some v1 ∧ w'.cell? a2 = some v2 ∧ w'.cell? a3 = some v3 ∧ w'.cell? a4 = some v4 ∧ KM M w w' := ⟨hM.cells hk _ _ h1, hM.cells hk _ _ h2, hM.cells hk _ _ h3, hM.cells hk _ _ h4, hk⟩
theorem Memo.map {w : World} {R : Road} {C : Nat → Nat} {k m M : Nat} (h : Memo w R C k m M) : ∃ es c, w.heap[M]? = some (.map es c) := by
  obtain ⟨D, n, ⟨es, clock, hb, _⟩, _⟩ := h
  exact ⟨es, clock, hb⟩
theorem Memo.ne_row {w : World} {R : Road} {C : Nat → Nat} {k m M : Nat} (h : Memo w R C k m M) {b n : Nat} {t : TypeId} {f : Nat → Value} (hr : w.rowIs b t n f) : M ≠ b := by
  rintro rfl
  obtain ⟨es, c, hb⟩ := h.map
  obtain ⟨cs, hcs, _⟩ := hr
  rw [hb] at hcs
  cases hcs
theorem own_km {w w' : World} {R : Road} {C : Nat → Nat} {k m M : Nat} (h : Memo w R C k m M) {base e size : Nat} {v : Value} {n : Nat} {xs : List Value} (ho : w.ownsRow base e size v n xs) (hk : KM M w w') : w'.ownsRow base e size v n xs :=
  own_keptY ho hk (fun b c f hb _ e => by
    obtain ⟨es, cl, hm⟩ := h.map
    rw [e, hm] at hb
    cases hb)
theorem Memo.grown {w w' : World} {R : Road} {C : Nat → Nat} {k m M : Nat} (h : Memo w R C k m M) {base e size : Nat} {v : Value} {n : Nat} {xs : List Value} (ho : w.ownsRow base e size v n xs) (hg : w.grownBy w' v.ownBlock) : Memo w' R C k m M :=
  h.keptX ((KeptX.refl (fun b => some b = v.ownBlock) w).grown hg (fun kk hk => Or.inl hk.symm)) (fun e => by
    obtain ⟨es, cl, hm⟩ := h.map
    rcases ho.2 with ⟨rfl, _⟩ | ⟨g, cap, cur, rfl, _, h3, _⟩
    · cases e
    · have e1 : M = g := by simpa [Value.ownBlock] using e
      rw [← e1, hm] at h3
      cases h3)
set_option maxRecDepth 100000 in
set_option maxHeartbeats 8000000 in
theorem planLM_any (w : World) (v : Value) (R : Road) (ok : R.Ok) (k m : Nat) (C : Nat → Nat) (S : Nat → Nat) (M : Nat) (s0 : Nat) (h0 : Hid (s0 = 0)) (hP : PlansAt w v R k m C s0 S M) (hm : m ≤ 100) (hk1 : 1 ≤ k) (hk3 : k ≤ 3) (hC : ∀ i, i < m → C i < R.n) (hS : ∀ i, i < 3 → S i < R.n) (hMem : Memo w R C k m M) (pr : Nat → (Nat → Nat) → Nat → Nat)
    (PR : ∀ W s P h, PlansAt W v R k m C s0 S M → Memo W R C k m M → s < m → (∀ i, i < 3 → P i < R.n) → h < k → Calls Try.prog 61 #[v, StgV s P, .int .i64 (h : Int)] W fun e w' => e = .returned (.int .i64 ((pr s P h : Nat) : Int)) ∧ KM M W w' ∧ Memo w' R C k m M) :
    Calls Try.prog 60 #[v, .func (.func 61) #[v] #[]] w (fun e w' => ∃ v, e = .returned v ∧ w'.ownsRow w.heap.size 3 1 v m (natsL (plF C pr k S) m) ∧ KM M w w' ∧ Memo w' R C k m M) := by
  obtain ⟨i0, hi0, hz0, hz1, hz2⟩ := info_parts Try.info3
  have hP0 := hP
  obtain ⟨b0, o0, c0, b1, o1, c1, b2, o2, c2, ca, cb, co, ccap, rfl, _, hca, hc⟩ := hP.open ok
  have PR2 := Lib.hid PR
  have SN := Lib.hid (fun W s P h (hW : PlansAt W (.agg #[.slice (some ⟨b0, o0, none⟩) R.n c0, .slice (some ⟨b1, o1, none⟩) R.n c1, .slice (some ⟨b2, o2, none⟩) R.n c2, .slice ca m ccap, .int .i64 (k : Int), .int .i64 (s0 : Int), .int .i64 (S 0 : Int), .int .i64 (S 1 : Int), .int .i64 (S 2 : Int), .map (some M)]) R k m C s0 S M) (hs : s < m) (hh : h < k) => sent_any W _ R ok k m C s0 S M hW hm s P h hs (by omega))
  unfold StgV at PR2 SN
  obtain ⟨n0, HN0⟩ : ∃ n0, w.heap.size = n0 := ⟨_, rfl⟩
  obtain ⟨W1, hW1, hsz, q0, q1, q2, q3, q4, q5, q6, q7, q8, q9, hK⟩ := newbox10 w n0 HN0 (.slice (some ⟨b0, o0, none⟩) R.n c0) (.slice (some ⟨b1, o1, none⟩) R.n c1) (.slice (some ⟨b2, o2, none⟩) R.n c2) (.slice ca m ccap) (.int .i64 (k : Int)) (.int .i64 (s0 : Int)) (.int .i64 (S 0 : Int)) (.int .i64 (S 1 : Int)) (.int .i64 (S 2 : Int)) (.map (some M)) 106
  have hrow := box4row W1 (n0 + 1) hsz (.int .i64 (s0 : Int)) (.int .i64 ((S 0 : Nat) : Int)) (.int .i64 ((S 1 : Nat) : Int)) (.int .i64 ((S 2 : Nat) : Int)) 103
  obtain ⟨W2, hW2, hsz2, y0, y1, y2, y3, hK1⟩ := newbox4 W1 (n0 + 1) hsz (.int .i64 (s0 : Int)) (.int .i64 ((S 0 : Nat) : Int)) (.int .i64 ((S 1 : Nat) : Int)) (.int .i64 ((S 2 : Nat) : Int)) 103
  rw [hW2] at hrow
  have hP1 := hP0.kept hK
  have hM1 := hMem.kept hK
  have hM2 := hM1.kept hK1
  have hg1 : W1.heap.size ≤ n0 + 1 := by omega
  have hwn : w.heap.size ≤ n0 + 1 := by omega
  have hgn : n0 + 1 ≤ W1.heap.size := by omega
  clear hc hP hP0 PR y0 y1 y2 y3
  go_enter Try.func60, Try.ntmps60
  go_wp2_with fail
  obtain ⟨np, HNP⟩ : ∃ np, n0 + 1 = np := ⟨_, rfl⟩
  rw [HNP] at hrow hg1 hwn hgn ⊢
  clear hW1 hW2 hsz hsz2 HNP
  go_loopg [5] m (fun g s5 wr => ∃ (i : Nat) (P : Nat → Nat), i ≤ m ∧ g = m - i ∧ Hid (P = stP C pr k S i) ∧ (∀ j, j < 3 → P j < R.n) ∧ KM M W1 wr ∧ Memo wr R C k m M ∧ wr.ownsRow np 3 1 s5 i (natsL (plF C pr k S) i) ∧ wr.rowIs np 103 4 (bx4 (.int .i64 ((i : Nat) : Int)) (.int .i64 ((P 0 : Nat) : Int)) (.int .i64 ((P 1 : Nat) : Int)) (.int .i64 ((P 2 : Nat) : Int))))
  case atStart => exact ⟨s0, S, by have := h0.out; omega, by have := h0.out; omega, by show _ = _; rw [h0.out]; rfl, hS, hK1.km M, hM2, by rw [h0.out]; exact World.ownsRow_nil _ _ _ _, hrow⟩
  case round =>
    clear hrow hK1 hM2 hMem
    obtain ⟨i, P, hi, rfl, hPs, hPb, hKr, hMr, hO, hrow⟩ := hrel
    obtain ⟨z0, z1, z2, z3, z4, z5, z6, z7, z8, z9, _⟩ := keepM10 q0 q1 q2 q3 q4 q5 q6 q7 q8 q9 hM1 hKr
    have y0 : wr.cell? ⟨np, 0, none⟩ = some (.int .i64 (i : Int)) := hrow.cell (i := 0) (by omega)
    have y1 : wr.cell? ⟨np, 1, none⟩ = some (.int .i64 ((P 0 : Nat) : Int)) := hrow.cell (i := 1) (by omega)
    have y2 : wr.cell? ⟨np, 2, none⟩ = some (.int .i64 ((P 1 : Nat) : Int)) := hrow.cell (i := 2) (by omega)
    have y3 : wr.cell? ⟨np, 3, none⟩ = some (.int .i64 ((P 2 : Nat) : Int)) := hrow.cell (i := 3) (by omega)
    obtain ⟨va, vcap, rfl⟩ := own_shape hO
    by_cases hlt : i < m
    · obtain rfl := hca (by omega)
      have m1 : (i : Int) < (m : Int) := by omega
      have PR3 := Lib.hid (fun W h hW hMm hh => PR2.out W i P h hW hMm hlt hPb hh)
      have SN2 := Lib.hid (fun W h hW hh => SN.out W i P h hW hlt hh)
      have hPlr := hP1.ofCells (hM1.cells hKr)
      go_wp2_with fail
      go_loopg [7, 19] k (fun g s7 s19 wi => ∃ h : Nat, h ≤ k ∧ g = k - h ∧ s19 = .int .i64 h ∧ s7 = .int .i64 ((bestH (pr i P) h : Nat) : Int) ∧ KM M wr wi ∧ Memo wi R C k m M)
      case atStart => exact ⟨0, Nat.zero_le _, rfl, rfl, rfl, KeptX.refl _ _, hMr⟩
      case round =>
        obtain ⟨h, hh, rfl, rfl, rfl, hKi, hMi⟩ := hrel
        obtain ⟨x0, x1, x2, x3, _⟩ := keepM4 y0 y1 y2 y3 hMr hKi
        by_cases hlt2 : h < k
        · have m2 : (h : Int) < (k : Int) := by omega
          have hbl : bestH (pr i P) h < k := by
            by_cases e : h = 0
            · subst e; simp [bestH]; omega
            · have := bestH_lt (pr i P) h (by omega); omega
          have hPli := hPlr.ofCells (hMr.cells hKi)
          have hbs := Lib.hid (show bestH (pr i P) (h + 1) = if pr i P h < pr i P (bestH (pr i P) h) then h else bestH (pr i P) h from rfl)
          obtain ⟨f, HF⟩ : ∃ f, Hid (f = bestH (pr i P) h) := ⟨_, rfl⟩
          rw [← HF.out] at hbl hbs ⊢
          by_cases hlt3 : pr i P h < pr i P f
          · have m3 : ((pr i P h : Nat) : Int) < ((pr i P f : Nat) : Int) := by omega
            have hbs2 : Hid (bestH (pr i P) (h + 1) = h) := by show _ = _; rw [hbs.out, if_pos hlt3]
            clear hbs HF
            go_wp2_with fail
            go_region_held3 (fun w' => w'.cell? ⟨np, 0, none⟩ = some (.int .i64 i) ∧ w'.cell? ⟨np, 1, none⟩ = some (.int .i64 ((P 0 : Nat) : Int)) ∧ w'.cell? ⟨np, 2, none⟩ = some (.int .i64 ((P 1 : Nat) : Int)) ∧ w'.cell? ⟨np, 3, none⟩ = some (.int .i64 ((P 2 : Nat) : Int)) ∧ KM M wr w')
              (exact keepM4 x0 x1 x2 x3 hMi (by repeat (first | assumption | exact KeptX.refl _ _ | apply KeptX.drew | apply KeptX.drewN | apply KeptX.alloc | refine KeptX.trans ?_ (by assumption))))
              (first | (go_at_call 61; refine (PR3.out _ _ (hPli.ofCells (hMi.cells (by repeat (first | assumption | exact KeptX.refl _ _ | apply KeptX.drew | apply KeptX.drewN | apply KeptX.alloc | refine KeptX.trans ?_ (by assumption))))) (by first | assumption | exact Memo.kept hm7 (by repeat (first | assumption | exact Kept.refl _ | apply Kept.drew | apply Kept.drewN | apply Kept.alloc | refine Kept.trans ?_ (by assumption))) | exact Memo.kept hMi (by repeat (first | assumption | exact Kept.refl _ | apply Kept.drew | apply Kept.drewN | apply Kept.alloc | refine Kept.trans ?_ (by assumption)))) (by first | exact hlt2 | exact hbl)).mono ?_; rintro e w' ⟨rfl, hk1, hm7⟩))
            all_goals
              go_wp2_with fail
              go_roundg (k - (h + 1))
              case measure => omega
              case rel => exact ⟨h + 1, by omega, rfl, by go_num, by rw [hbs2.out], hKi.trans (by repeat (first | assumption | exact KeptX.refl _ _ | apply KeptX.drew | apply KeptX.drewN | apply KeptX.alloc | refine KeptX.trans ?_ (by assumption))), (by first | assumption | exact Memo.kept hm7 (by repeat (first | assumption | exact Kept.refl _ | apply Kept.drew | apply Kept.drewN | apply Kept.alloc | refine Kept.trans ?_ (by assumption))))⟩
          · have m3 : ¬ ((pr i P h : Nat) : Int) < ((pr i P f : Nat) : Int) := by omega
            have hbs2 : Hid (bestH (pr i P) (h + 1) = f) := by show _ = _; rw [hbs.out, if_neg hlt3]
            clear hbs HF
            go_wp2_with fail
            go_region_held3 (fun w' => w'.cell? ⟨np, 0, none⟩ = some (.int .i64 i) ∧ w'.cell? ⟨np, 1, none⟩ = some (.int .i64 ((P 0 : Nat) : Int)) ∧ w'.cell? ⟨np, 2, none⟩ = some (.int .i64 ((P 1 : Nat) : Int)) ∧ w'.cell? ⟨np, 3, none⟩ = some (.int .i64 ((P 2 : Nat) : Int)) ∧ KM M wr w')
              (exact keepM4 x0 x1 x2 x3 hMi (by repeat (first | assumption | exact KeptX.refl _ _ | apply KeptX.drew | apply KeptX.drewN | apply KeptX.alloc | refine KeptX.trans ?_ (by assumption))))
              (first | (go_at_call 61; refine (PR3.out _ _ (hPli.ofCells (hMi.cells (by repeat (first | assumption | exact KeptX.refl _ _ | apply KeptX.drew | apply KeptX.drewN | apply KeptX.alloc | refine KeptX.trans ?_ (by assumption))))) (by first | assumption | exact Memo.kept hm7 (by repeat (first | assumption | exact Kept.refl _ | apply Kept.drew | apply Kept.drewN | apply Kept.alloc | refine Kept.trans ?_ (by assumption))) | exact Memo.kept hMi (by repeat (first | assumption | exact Kept.refl _ | apply Kept.drew | apply Kept.drewN | apply Kept.alloc | refine Kept.trans ?_ (by assumption)))) (by first | exact hlt2 | exact hbl)).mono ?_; rintro e w' ⟨rfl, hk1, hm7⟩))
            all_goals
              go_wp2_with fail
              go_roundg (k - (h + 1))
              case measure => omega
              case rel => exact ⟨h + 1, by omega, rfl, by go_num, by rw [hbs2.out], hKi.trans (by repeat (first | assumption | exact KeptX.refl _ _ | apply KeptX.drew | apply KeptX.drewN | apply KeptX.alloc | refine KeptX.trans ?_ (by assumption))), (by first | assumption | exact Memo.kept hm7 (by repeat (first | assumption | exact Kept.refl _ | apply Kept.drew | apply Kept.drewN | apply Kept.alloc | refine Kept.trans ?_ (by assumption))))⟩
        · obtain rfl : h = k := by omega
          have hO2 := own_km hMr hO hKi
          have hrow2 := hKi.row hrow (fun e => hMr.ne_row hrow e.symm)
          have hKw2 := hKr.trans hKi
          have hPl2 := hP1.ofCells (hM1.cells hKw2)
          have hbl := bestH_lt (pr i P) h hk1
          have hsz : np ≤ wr.heap.size := Nat.le_trans hgn hKw2.size
          have hpl := Lib.hid (show plF C pr h S i = bestH (pr i P) h by unfold plF; rw [hPs.out])
          obtain ⟨f, HF⟩ : ∃ f, Hid (f = bestH (pr i P) h) := ⟨_, rfl⟩
          rw [← HF.out] at hpl hbl ⊢
          have hsn : Hid (sentP C i P f = stP C pr h S (i + 1)) := by show _ = _; rw [HF.out, hPs.out]; rfl
          have SN3 := Lib.hid (fun W hW => SN2.out W f hW hbl)
          obtain ⟨Q, HQ⟩ : ∃ Q, Hid (Q = sentP C i P f) := ⟨_, rfl⟩
          rw [← HQ.out] at SN3 hsn
          have hQb : ∀ j, j < 3 → Q j < R.n := fun j hj => by
            rw [HQ.out]
            unfold sentP
            split
            · exact hC i hlt
            · exact hPb j hj
          clear x0 x1 x2 x3 hO hrow y0 y1 y2 y3 z0 z1 z2 z3 z4 z5 z6 z7 z8 z9 HF HQ
          go_wp2_with (first | (at_builtin; refine wpList_append_own _ rfl _ _ 22 rfl np 3 i0 (.int .i64 0) 1 8 Try.underlying22 hi0 hz0 hz1 hz2 rfl (by decide) _ _ _ rfl (hO2.alloc _) ⟨_, 0, none⟩ 1 1 [.int .i64 (f : Int)] rfl rfl ?c1 ?c2 ?c3 ?c4 ?c5 ?_))
          case c1 => exact cell_one_new _ _ _
          case c2 => simp [Value.oneCell']
          case c3 => unfold maxLen; omega
          case c4 => omega
          case c5 => simp; omega
          intro ov' w5 hO5 hgr _
          have hKA := hKw2.alloc (.cells #[.int .i64 (f : Int)] 3)
          have hK5 : KM M W1 w5 := KeptX.grown hKA hgr (fun kk hkk => Or.inr (Nat.le_trans hg1 ((hO2.alloc (.cells #[.int .i64 (f : Int)] 3)).lt kk hkk).1))
          have hM5 : Memo w5 R C h m M := (hMi.kept ((Kept.refl _).alloc (.cells #[.int .i64 (f : Int)] 3))).grown (hO2.alloc (.cells #[.int .i64 (f : Int)] 3)) hgr
          have hrow5 := row_grown (hrow2.of_block (blk_alloc_lt _ _ _ hrow2.lt)) (hO2.alloc _) (by decide) hgr
          have hO6 : w5.ownsRow np 3 1 ov' (i + 1) (natsL (plF C pr h S) (i + 1)) := by
            rw [natsL_succ, hpl.out]; exact hO5
          obtain ⟨z0, z1, z2, z3, z4, z5, z6, z7, z8, z9, _⟩ := keepM10 q0 q1 q2 q3 q4 q5 q6 q7 q8 q9 hM1 hK5
          have y0 : w5.cell? ⟨np, 0, none⟩ = some (.int .i64 (i : Int)) := hrow5.cell (i := 0) (by omega)
          have y1 : w5.cell? ⟨np, 1, none⟩ = some (.int .i64 ((P 0 : Nat) : Int)) := hrow5.cell (i := 1) (by omega)
          have y2 : w5.cell? ⟨np, 2, none⟩ = some (.int .i64 ((P 1 : Nat) : Int)) := hrow5.cell (i := 2) (by omega)
          have y3 : w5.cell? ⟨np, 3, none⟩ = some (.int .i64 ((P 2 : Nat) : Int)) := hrow5.cell (i := 3) (by omega)
          have hPl5 := hP1.ofCells (hM1.cells hK5)
          obtain ⟨va2, vcap2, rfl⟩ := own_shape hO6
          clear hO5 hgr hO2 hrow2 hKA hPl2 hPlr
          go_wp2_with (first | (go_at_call 78; refine (SN3.out _ hPl5).mono ?_; rintro e w6 ⟨rfl, hk6⟩; obtain ⟨u0, u1, u2, u3, _⟩ := keep4 y0 y1 y2 y3 hk6; have hrow6 := hk6.row hrow5; have g0 := hrow6.frozen 0; have g1 := hrow6.frozen 1; have g2 := hrow6.frozen 2; have g3 := hrow6.frozen 3))
          obtain ⟨hrowF, hOF⟩ := fill4 hrow6 (own_kept hO6 hk6) (.int .i64 ((i : Int) + 1)) (.int .i64 ((Q 0 : Nat) : Int)) (.int .i64 ((Q 1 : Nat) : Int)) (.int .i64 ((Q 2 : Nat) : Int))
          have hKF := (KeptX.setCell (KeptX.setCell (KeptX.setCell (KeptX.setCell (hK5.trans (hk6.km M)) (p := ⟨np, 0, none⟩) (Or.inr hg1) (.int .i64 ((i : Int) + 1))) (p := ⟨np, 1, none⟩) (Or.inr hg1) (.int .i64 ((Q 0 : Nat) : Int))) (p := ⟨np, 2, none⟩) (Or.inr hg1) (.int .i64 ((Q 1 : Nat) : Int))) (p := ⟨np, 3, none⟩) (Or.inr hg1) (.int .i64 ((Q 2 : Nat) : Int)))
          have hMF := (hM5.kept hk6).keptX (KeptX.setIn (KeptX.setIn (KeptX.setIn (KeptX.setIn (KeptX.refl (fun kk => kk = np) w6) 0 (.int .i64 ((i : Int) + 1))) 1 (.int .i64 ((Q 0 : Nat) : Int))) 2 (.int .i64 ((Q 1 : Nat) : Int))) 3 (.int .i64 ((Q 2 : Nat) : Int))) (fun e => (hM5.kept hk6).ne_row hrow6 e)
          go_roundg (m - (i + 1))
          case measure => omega
          case rel => exact ⟨i + 1, Q, by omega, rfl, hsn.out, hQb, hKF, hMF, hOF, hrowF⟩
    · obtain rfl : i = m := by have := h0.out; omega
      go_wp2_with fail
      go_ret
      exact ⟨_, rfl, own_base hO hwn, (hK.km M).trans hKr, hMr⟩
end Go.Proofs.Ytlgpclnmonpkjaa
namespace Go.Proofs.Ytlgpclnmonpkjaa
open Go.RowKit Go.Deep

theorem minB_best (f : Nat → Nat) : ∀ n, 1 ≤ n → (∀ i, i < n → f i ≤ 1048576) → minB f n = f (bestH f n) := by
  intro n
  induction n with
  | zero => intro h; omega
  | succ n ih =>
    intro _ hb
    have h1 := hb n (by omega)
    by_cases e : n = 0
    · subst e
      have hb0 : bestH f (0 + 1) = 0 := by have := bestH_lt f (0 + 1) (by omega); omega
      rw [hb0]
      simp only [minB]
      omega
    · have h2 := ih (by omega) (fun i hi => hb i (by omega))
      simp only [minB, bestH]
      rw [h2]
      split <;> omega
theorem lst_any {R : Road} {C : Nat → Nat} {k m : Nat} (S F : Nat → Nat) (hF : ∀ i, i < m → F i < k) : ∀ r s, s + r = m → lst R C k r s (pS C F S s) + cstP R C F S s ≤ cstP R C F S m := by
  intro r
  induction r with
  | zero => intro s hs; obtain rfl : s = m := (by omega); simp [lst]
  | succ r ih =>
    intro s hs
    have h1 := ih (s + 1) (by omega)
    have h2 := minB_le (fun h => wayP R C s (pS C F S s) h + lst R C k r (s + 1) (sentP C s (pS C F S s) h)) k (F s) (hF s (by omega))
    have e1 : lst R C k (r + 1) s (pS C F S s) = minB (fun h => wayP R C s (pS C F S s) h + lst R C k r (s + 1) (sentP C s (pS C F S s) h)) k := rfl
    have e2 : cstP R C F S (s + 1) = cstP R C F S s + wayP R C s (pS C F S s) (F s) := rfl
    have e3 : pS C F S (s + 1) = sentP C s (pS C F S s) (F s) := rfl
    rw [e3, e2] at h1
    rw [e1]
    (try dsimp only at h2)
    omega
theorem stP_pS (C : Nat → Nat) (pr : Nat → (Nat → Nat) → Nat → Nat) (k : Nat) (S : Nat → Nat) : ∀ i, pS C (plF C pr k S) S i = stP C pr k S i := by
  intro i
  induction i with
  | zero => rfl
  | succ i ih => simp only [pS, stP]; rw [ih]; rfl
theorem lst_plan {R : Road} (ok : R.Ok) {C : Nat → Nat} {k m : Nat} (hm : m ≤ 12) (hk1 : 1 ≤ k) (hk3 : k ≤ 3) (hC : ∀ i, i < m → C i < R.n) (S : Nat → Nat) (hS : ∀ j, j < 3 → S j < R.n) (pr : Nat → (Nat → Nat) → Nat → Nat) (hpr : pr = fun s P h => wayP R C s P h + lst R C k (m - (s + 1)) (s + 1) (sentP C s P h)) : ∀ r s, s + r = m → lst R C k r s (stP C pr k S s) + cstP R C (plF C pr k S) S s = cstP R C (plF C pr k S) S m := by
  intro r
  induction r with
  | zero => intro s hs; obtain rfl : s = m := (by omega); simp [lst]
  | succ r ih =>
    intro s hs
    have h1 := ih (s + 1) (by omega)
    have hp := stP_place (pr := pr) (k := k) hC hS s (by omega)
    have hmb := minB_best (pr s (stP C pr k S s)) k hk1 (fun h hh => by
      rw [hpr]
      have h2 := lst_le ok hC hk1 hk3 (m - (s + 1)) (s + 1) (sentP C s (stP C pr k S s) h) (by omega) (sentP_place hC (by omega) hp)
      have h3 : wayP R C s (stP C pr k S s) h ≤ 360 := Road.dist_le ok (Road.place_spot (hp h (by omega))) (Road.place_spot (hC s (by omega)))
      rw [hpr] at h2 h3
      (try dsimp only)
      omega)
    have e4 : ∀ h, pr s (stP C pr k S s) h = wayP R C s (stP C pr k S s) h + lst R C k r (s + 1) (sentP C s (stP C pr k S s) h) := fun h => by
      have e : m - (s + 1) = r := by omega
      have := congrFun (congrFun (congrFun hpr s) (stP C pr k S s)) h
      rw [e] at this
      exact this
    have e1 : lst R C k (r + 1) s (stP C pr k S s) = minB (pr s (stP C pr k S s)) k := minB_congr k (fun h _ => (e4 h).symm)
    have e2 : cstP R C (plF C pr k S) S (s + 1) = cstP R C (plF C pr k S) S s + wayP R C s (stP C pr k S s) (bestH (pr s (stP C pr k S s)) k) := by
      show _ + wayP R C s (pS C (plF C pr k S) S s) (plF C pr k S s) = _
      rw [stP_pS]
      rfl
    have e3 : stP C pr k S (s + 1) = sentP C s (stP C pr k S s) (bestH (pr s (stP C pr k S s)) k) := rfl
    rw [e2, e3] at h1
    rw [e1, hmb, e4]
    omega
set_option maxRecDepth 100000 in
set_option maxHeartbeats 8000000 in
theorem Plan_ok (w : World) (v hv cv : Value) (nO nL : Nat) (fO fL : Nat → Int) (hR : RoadIn w v nO nL fO fL) (hnO : nO ≤ 1000000000) (hnL : nL ≤ 1000000000) (k : Nat) (A B : Nat → Int) (hP : PairsAt w hv k A B) (m : Nat) (C : Nat → Int) (hC : IntsAt w cv m C) (hok : plOk nO nL fO fL k A B m C = true) :
    Calls Try.prog 34 #[v, hv, cv] w fun e w' => ∃ a c, e = .returned (.tuple #[.slice a m c, .int .i64 0]) ∧ IntsAt w' (.slice a m c) m (natI (plF (callsN C) (fun s P h => wayP (roadR nO fO fL) (callsN C) s P h + lst (roadR nO fO fL) (callsN C) k (m - (s + 1)) (s + 1) (sentP (callsN C) s P h)) k (begS k A))) ∧ Kept w w' := by
  have hR0 := hR
  obtain ⟨p1, hk1, hk3, hm12, p5, p6⟩ := withOk_parts (plOk_with hok)
  have ok := roadR_ok p1
  have hSb := begS_place (plOk_with hok)
  obtain ⟨hI, hcp⟩ := calls_ints hC p6
  obtain ⟨x, y, rfl, ⟨aO, bO, oO, cO, rfl, _, _⟩, ⟨aL, bL, oL, cL, rfl, _, _⟩⟩ := hR
  obtain ⟨ha, hha, hhc, rfl⟩ : ∃ a n c, hv = .slice a n c := by obtain ⟨a, _, _, cap, e, _⟩ := hP; exact ⟨a, k, cap, e⟩
  obtain ⟨ca, cca, ccc, rfl⟩ : ∃ a n c, cv = .slice a n c := by obtain ⟨a, _, _, cap, e, _⟩ := hC; exact ⟨a, m, cap, e⟩
  have PO := Lib.hid (fun W (hW : RoadIn W (.agg #[.slice aO nO cO, .slice aL nL cL]) nO nL fO fL) (hP : PairsAt W (.slice ha hha hhc) k A B) (hC : IntsAt W (.slice ca cca ccc) m C) => plansOf_any W _ _ _ nO nL fO fL hW hnO hnL k A B hP (by omega) m C hC (by omega))
  obtain ⟨n0, HN0⟩ : ∃ n0, w.heap.size = n0 := ⟨_, rfl⟩
  obtain ⟨W1, hW1, hsz, q0, q1, hK⟩ := newbox2 w n0 HN0 (.slice aO nO cO) (.slice aL nL cL) 24
  have hR1 := hR0.kept hK
  have hP1 := hP.kept hK
  have hC1 := hC.kept hK
  obtain ⟨z0, HZ0⟩ : ∃ z0 : Nat, Hid (z0 = 0) := ⟨0, rfl⟩
  have LM : Hid (∀ W pv M (hW : PlansAt W pv (roadR nO fO fL) k m (callsN C) z0 (begS k A) M) (hMm : Memo W (roadR nO fO fL) (callsN C) k m M), Calls Try.prog 60 #[pv, .func (.func 61) #[pv] #[]] W fun e w' => ∃ v, e = .returned v ∧ w'.ownsRow W.heap.size 3 1 v m (natsL (plF (callsN C) (fun s P h => wayP (roadR nO fO fL) (callsN C) s P h + lst (roadR nO fO fL) (callsN C) k (m - (s + 1)) (s + 1) (sentP (callsN C) s P h)) k (begS k A)) m) ∧ KM M W w' ∧ Memo w' (roadR nO fO fL) (callsN C) k m M) := by
    show ∀ W pv, _
    intro W pv M hW hMm
    exact planLM_any W pv (roadR nO fO fL) ok k m (callsN C) (begS k A) M z0 HZ0 hW (by omega) hk1 hk3 hcp hSb hMm _ (fun W2 s P h hW2 hM2 hs hP2 hh => leastWithM_any W2 pv (roadR nO fO fL) ok k m (callsN C) z0 (begS k A) M hW2 (by omega) hcp s P h hs (by omega) (hP2 h (by omega)) hM2 (lst (roadR nO fO fL) (callsN C) k (m - (s + 1)) (s + 1) (sentP (callsN C) s P h)) (by have := lst_le ok hcp hk1 hk3 (m - (s + 1)) (s + 1) (sentP (callsN C) s P h) (by omega) (sentP_place hcp (by omega) hP2); omega) (fun W3 hW3 hM3 => leastM_any pv (roadR nO fO fL) ok k m (callsN C) z0 (begS k A) M hm12 hk1 hk3 hcp (m - (s + 1)) (s + 1) (sentP (callsN C) s P h) W3 (by omega) (sentP_place hcp (by omega) hP2) hW3 hM3))
  have hmf : ∀ (fn : Fn) (first cap : Array Value) (w : World), (Instr.makeFunc fn first cap).run Try.prog w = .ok (.func fn first cap) w := fun _ _ _ _ => rfl
  have HOK := Lib.hid hok
  obtain ⟨FF, HFF⟩ : ∃ FF, Hid (FF = plF (callsN C) (fun s P h => wayP (roadR nO fO fL) (callsN C) s P h + lst (roadR nO fO fL) (callsN C) k (m - (s + 1)) (s + 1) (sentP (callsN C) s P h)) k (begS k A)) := ⟨_, rfl⟩
  rw [← HFF.out] at LM ⊢
  obtain ⟨BS, HBS⟩ : ∃ BS, Hid (BS = begS k A) := ⟨_, rfl⟩
  rw [← HBS.out] at LM
  clear hok p1 p5 p6 hcp hI hSb HFF
  go_enter Try.func34, Try.ntmps34
  go_wp2_with (first | (go_at_call 58; refine (PO.out _ hR1 hP1 hC1).mono ?_; intro e w3 hpp; obtain ⟨pv, M, rfl, hPl3, hM9, hMM, hk3'⟩ := PlansPost.ok HOK.out hpp; rw [← HBS.out] at hPl3; rw [← HZ0.out] at hPl3; obtain ⟨b0, o0, c0, b1, o1, c1, b2, o2, c2, pca, pcb, pco, pcc, rfl, _, _, _⟩ := id (hPl3.open ok); obtain ⟨a0, Ha0⟩ : ∃ a0, Hid (a0 = BS 0) := ⟨_, rfl⟩; obtain ⟨a1, Ha1⟩ : ∃ a1, Hid (a1 = BS 1) := ⟨_, rfl⟩; obtain ⟨a2, Ha2⟩ : ∃ a2, Hid (a2 = BS 2) := ⟨_, rfl⟩; rw [← Ha0.out, ← Ha1.out, ← Ha2.out] at hPl3 ⊢; have hMe := Memo.made (R := (roadR nO fO fL)) (C := callsN C) (k := k) (m := m) hMM; obtain ⟨n4, HN4⟩ : ∃ n4, w3.heap.size = n4 := ⟨_, rfl⟩; obtain ⟨W4, hW4, hsz4, u0, u1, u2, u3, u4, u5, u6, u7, u8, u9, hK4⟩ := newbox10 w3 n4 HN4 (.slice (some ⟨b0, o0, none⟩) (roadR nO fO fL).n c0) (.slice (some ⟨b1, o1, none⟩) (roadR nO fO fL).n c1) (.slice (some ⟨b2, o2, none⟩) (roadR nO fO fL).n c2) (.slice pca m pcc) (.int .i64 (k : Int)) (.int .i64 (z0 : Int)) (.int .i64 (a0 : Int)) (.int .i64 (a1 : Int)) (.int .i64 (a2 : Int)) (.map (some M)) 106; have hPl4 := hPl3.kept hK4; have hMe4 := hMe.kept hK4; have hKa := (hK.trans hk3').trans hK4; have hM10 := Nat.le_trans hK.size hM9) | (go_at_call 60; refine (LM.out _ _ M hPl4 hMe4).mono ?_; rintro e w5 ⟨fv, rfl, hf5, hk5, _⟩; obtain ⟨fa, fcap, rfl⟩ := own_shape hf5; have hF5 : IntsAt w5 _ m (natI FF) := IntsAt.of_natsL hf5; clear hf5))
  exact bodyPost_ret (v := .tuple #[.slice fa m fcap, .int .i64 0]) (by simp [results, Try.results34, go_sem]; try rfl) rfl ⟨_, _, rfl, hF5, hKa.step hk5 (fun i hi => by rw [hi]; exact hM10)⟩

end Go.Proofs.Ytlgpclnmonpkjaa
