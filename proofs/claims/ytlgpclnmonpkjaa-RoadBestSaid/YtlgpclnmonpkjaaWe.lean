/-
  The reference's Distance.
-/
import Derived.Test.YtlgpclnmonpkjaaWd
namespace Go.Proofs.Ytlgpclnmonpkjaa
open Go.RowKit Go.Deep

theorem Road.near_left {R : Road} (h : R.Ok) {a b : Sp} (ha : R.spot a) (hb : R.spot b) (hne : a ≠ b) (hd : R.dep b ≤ R.dep a) : R.dist (R.up a) b + 1 = R.dist a b := by
  have tl := Road.top_le h ha hb
  have hlt : R.top a b < R.dep a := by
    rcases Nat.lt_or_ge (R.top a b) (R.dep a) with g | g
    · exact g
    · exact absurd (Road.top_same h ha hb (by omega) (by omega)) hne
  rw [← Road.au_up (R := R) (s := a) (by omega)]
  have h1 := Road.top_at h ha hb (d := R.dep a - 1) (by omega)
  have h2 := Road.au_dep h ha (d := R.dep a - 1) (by omega)
  unfold Road.dist
  rw [h1, h2]
  omega
theorem Road.near_right {R : Road} (h : R.Ok) {a b : Sp} (ha : R.spot a) (hb : R.spot b) (hd : R.dep a < R.dep b) : R.dist a (R.up b) + 1 = R.dist a b := by
  rw [Road.dist_comm h ha (Road.up_spot h hb), Road.dist_comm h ha hb]
  exact Road.near_left h hb ha (fun e => by subst e; omega) (by omega)
set_option maxRecDepth 100000 in
set_option maxHeartbeats 4000000 in
theorem rDistance_any (w : World) (v : Value) (R : Road) (ok : R.Ok) (hT : RefAt w v R) (s t : Sp) (hs : R.spot s) (ht : R.spot t) :
    Calls Try.prog 20 #[v, SpV s, SpV t] w fun e w' => e = .returned (.int .i64 ((R.dist s t : Nat) : Int)) ∧ Kept w w' := by
  have hT0 := hT
  obtain ⟨b0, o0, c0, b1, o1, c1, rfl, _, _⟩ := hT.open ok
  have UP := Lib.hid (fun W s (hW : RefAt W (.agg #[.slice (some ⟨b0, o0, none⟩) R.n c0, .slice (some ⟨b1, o1, none⟩) R.n c1]) R) (hs : R.spot s) => Up_any W _ R ok hW s hs)
  have DP := Lib.hid (fun W (i j : Nat) (hW : RefAt W (.agg #[.slice (some ⟨b0, o0, none⟩) R.n c0, .slice (some ⟨b1, o1, none⟩) R.n c1]) R) (hs : R.spot (i, j)) => rdepth_any W _ R ok hW (i, j) hs)
  unfold SpV at UP DP ⊢
  simp only at DP
  obtain ⟨n0, HN0⟩ : ∃ n0, w.heap.size = n0 := ⟨_, rfl⟩
  obtain ⟨W1, hW1, hsz, y0, y1, hK⟩ := newbox2 w n0 HN0 (.slice (some ⟨b0, o0, none⟩) R.n c0) (.slice (some ⟨b1, o1, none⟩) R.n c1) 24
  have hrowA := box2row W1 (n0 + 1) hsz (.int .i64 ((s.1 : Nat) : Int)) (.int .i64 ((s.2 : Nat) : Int)) 26
  obtain ⟨W2, hW2, hsz2, _, _, hK1⟩ := newbox2 W1 (n0 + 1) hsz (.int .i64 ((s.1 : Nat) : Int)) (.int .i64 ((s.2 : Nat) : Int)) 26
  rw [hW2] at hrowA
  have hrowB := box2row W2 (n0 + 1 + 1) hsz2 (.int .i64 ((t.1 : Nat) : Int)) (.int .i64 ((t.2 : Nat) : Int)) 26
  obtain ⟨W3, hW3, hsz3, _, _, hK2⟩ := newbox2 W2 (n0 + 1 + 1) hsz2 (.int .i64 ((t.1 : Nat) : Int)) (.int .i64 ((t.2 : Nat) : Int)) 26
  rw [hW3] at hrowB
  have hrowA := hK2.row hrowA
  have hK13 := hK1.trans hK2
  have hT1 := hT0.kept hK
  have hga : W1.heap.size ≤ n0 + 1 := by omega
  have hgb : W1.heap.size ≤ n0 + 1 + 1 := by omega
  have hab : n0 + 1 ≠ n0 + 1 + 1 := by omega
  have hDl := Road.dist_le ok hs ht
  have OK := Lib.hid ok
  clear hT hT0 hK1 hK2
  go_enter Try.func20, Try.ntmps20
  go_wp2_with fail
  obtain ⟨nb, HNB⟩ : ∃ nb, n0 + 1 + 1 = nb := ⟨_, rfl⟩
  rw [HNB] at hrowB hgb hab ⊢
  obtain ⟨na, HNA⟩ : ∃ na, n0 + 1 = na := ⟨_, rfl⟩
  rw [HNA] at hrowA hga hab ⊢
  clear hW1 hW2 hW3 hsz hsz2 hsz3 HNA HNB HN0
  go_loopg [7] (R.dist s t) (fun g s7 wr => ∃ (a b : Sp) (c : Nat), g = R.dist a b ∧ R.spot a ∧ R.spot b ∧ s7 = .int .i64 c ∧ R.dist a b + c = R.dist s t ∧ Kept W1 wr ∧ wr.rowIs na 26 2 (bx2 (.int .i64 ((a.1 : Nat) : Int)) (.int .i64 ((a.2 : Nat) : Int))) ∧ wr.rowIs nb 26 2 (bx2 (.int .i64 ((b.1 : Nat) : Int)) (.int .i64 ((b.2 : Nat) : Int))))
  case atStart => exact ⟨s, t, 0, rfl, hs, ht, rfl, by omega, hK13, hrowA, hrowB⟩
  case round =>
    clear hrowA hrowB hK13
    obtain ⟨⟨p, u⟩, ⟨q, x⟩, c, rfl, ha, hb, rfl, hc, hKr, hrowA, hrowB⟩ := hrel
    obtain ⟨z0, z1, _⟩ := keep2 y0 y1 hKr
    simp only at hrowA hrowB
    have x0 : wr.cell? ⟨na, 0, none⟩ = some (.int .i64 (p : Int)) := hrowA.cell (i := 0) (by omega)
    have x1 : wr.cell? ⟨na, 1, none⟩ = some (.int .i64 (u : Int)) := hrowA.cell (i := 1) (by omega)
    have x2 : wr.cell? ⟨nb, 0, none⟩ = some (.int .i64 (q : Int)) := hrowB.cell (i := 0) (by omega)
    have x3 : wr.cell? ⟨nb, 1, none⟩ = some (.int .i64 (x : Int)) := hrowB.cell (i := 1) (by omega)
    have hTr := hT1.kept hKr
    by_cases e : (p, u) = (q, x)
    · injection e with e0 e1
      subst e0
      subst e1
      have hz : R.dist (p, u) (p, u) = 0 := (Road.dist_zero OK.out ha ha).2 rfl
      go_wp2_with fail
      go_ret
      exact ⟨ret_int (by omega), hK.trans hKr⟩
    · have s1 : IntKind.i64.wrap ((c : Int) + 1) = (c : Int) + 1 := IntWalk.i64_in _ (by omega)
      have ne : ¬ ((p : Int) = (q : Int) ∧ (u : Int) = (x : Int)) := by
        rintro ⟨h1, h2⟩
        exact e (by rw [show p = q by omega, show u = x by omega])
      have NE := Lib.hid ne
      clear ne
      by_cases hdab : R.dep (q, x) ≤ R.dep (p, u)
      · by_cases e0 : (p : Int) = (q : Int)
        · have e1 : ¬ (u : Int) = (x : Int) := fun h => NE.out ⟨e0, h⟩
          have b1' : ((u : Int) == (x : Int)) = false := by simp; omega
          obtain rfl : p = q := by omega
          clear e0
          have hst := Road.near_left OK.out ha hb e hdab
          have hus := Road.up_spot OK.out ha
          have m3 : ((R.dep (p, x) : Nat) : Int) ≤ ((R.dep (p, u) : Nat) : Int) := by omega
          have UP2 := Lib.hid (fun W hW => UP.out W (p, u) hW ha)
          obtain ⟨⟨i, j⟩, HQ⟩ : ∃ t, Hid (t = R.up (p, u)) := ⟨_, rfl⟩
          rw [← HQ.out] at UP2 hst hus
          simp only at UP2
          clear HQ
          go_wp2_with fail
          go_cut [17] (fun v17 wx => v17 = .bool true ∧ Kept wr wx)
          case first =>
            go_region_held3 (fun w' => w'.cell? ⟨n0, 0, none⟩ = some (.slice (some ⟨b0, o0, none⟩) R.n c0) ∧ w'.cell? ⟨n0, 1, none⟩ = some (.slice (some ⟨b1, o1, none⟩) R.n c1) ∧ w'.cell? ⟨na, 0, none⟩ = some (.int .i64 p) ∧ w'.cell? ⟨na, 1, none⟩ = some (.int .i64 u) ∧ w'.cell? ⟨nb, 0, none⟩ = some (.int .i64 p) ∧ w'.cell? ⟨nb, 1, none⟩ = some (.int .i64 x) ∧ Kept wr w')
              (exact keep6 z0 z1 x0 x1 x2 x3 (by repeat (first | assumption | exact Kept.refl _ | apply Kept.drew | apply Kept.drewN | apply Kept.alloc | refine Kept.trans ?_ (by assumption))))
              (first | (go_at_call 50; refine (DP.out _ _ _ (hTr.kept (by repeat (first | assumption | exact Kept.refl _ | apply Kept.drew | apply Kept.drewN | apply Kept.alloc | refine Kept.trans ?_ (by assumption)))) (by first | exact ha | exact hb)).mono ?_; rintro e w4 ⟨rfl, hk4⟩))
            all_goals
              go_wp2_with fail
              go_meet
              exact ⟨rfl, (by repeat (first | assumption | exact Kept.refl _ | apply Kept.drew | apply Kept.drewN | apply Kept.alloc | refine Kept.trans ?_ (by assumption)))⟩
          case rest =>
            obtain ⟨rfl, hhK⟩ := hcut
            obtain ⟨hh0, hh1, hh2, hh3, hh4, hh5, _⟩ := keep6 z0 z1 x0 x1 x2 x3 hhK
            go_wp2_with (first | (go_at_call 51; refine (UP2.out _ (hTr.kept hhK)).mono ?_; rintro e w5 ⟨rfl, hk5⟩; have hkk := hhK.trans hk5; have hrow5 := hkk.row hrowA; have f0 := hrow5.frozen 0; have f1 := hrow5.frozen 1; obtain ⟨x0', x1', _⟩ := keep2 x0 x1 hkk))
            have hF := box2_set hrow5 (.int .i64 (i : Int)) (.int .i64 (j : Int))
            have hKF := ((hKr.trans hkk).setCell (p := ⟨na, 0, none⟩) hga (.int .i64 (i : Int))).setCell (p := ⟨na, 1, none⟩) hga (.int .i64 (j : Int))
            go_roundg (R.dist (i, j) (p, x))
            case measure => omega
            case rel => exact ⟨(i, j), (p, x), c + 1, rfl, hus, hb, rfl, by omega, hKF, hF, row_other (row_other (hkk.row hrowB) (Ne.symm hab) _) (Ne.symm hab) _⟩
        · have b0' : ((p : Int) == (q : Int)) = false := by simp; omega
          have hst := Road.near_left OK.out ha hb e hdab
          have hus := Road.up_spot OK.out ha
          have m3 : ((R.dep (q, x) : Nat) : Int) ≤ ((R.dep (p, u) : Nat) : Int) := by omega
          have UP2 := Lib.hid (fun W hW => UP.out W (p, u) hW ha)
          obtain ⟨⟨i, j⟩, HQ⟩ : ∃ t, Hid (t = R.up (p, u)) := ⟨_, rfl⟩
          rw [← HQ.out] at UP2 hst hus
          simp only at UP2
          clear HQ
          go_wp2_with fail
          go_cut [17] (fun v17 wx => v17 = .bool true ∧ Kept wr wx)
          case first =>
            go_region_held3 (fun w' => w'.cell? ⟨n0, 0, none⟩ = some (.slice (some ⟨b0, o0, none⟩) R.n c0) ∧ w'.cell? ⟨n0, 1, none⟩ = some (.slice (some ⟨b1, o1, none⟩) R.n c1) ∧ w'.cell? ⟨na, 0, none⟩ = some (.int .i64 p) ∧ w'.cell? ⟨na, 1, none⟩ = some (.int .i64 u) ∧ w'.cell? ⟨nb, 0, none⟩ = some (.int .i64 q) ∧ w'.cell? ⟨nb, 1, none⟩ = some (.int .i64 x) ∧ Kept wr w')
              (exact keep6 z0 z1 x0 x1 x2 x3 (by repeat (first | assumption | exact Kept.refl _ | apply Kept.drew | apply Kept.drewN | apply Kept.alloc | refine Kept.trans ?_ (by assumption))))
              (first | (go_at_call 50; refine (DP.out _ _ _ (hTr.kept (by repeat (first | assumption | exact Kept.refl _ | apply Kept.drew | apply Kept.drewN | apply Kept.alloc | refine Kept.trans ?_ (by assumption)))) (by first | exact ha | exact hb)).mono ?_; rintro e w4 ⟨rfl, hk4⟩))
            all_goals
              go_wp2_with fail
              go_meet
              exact ⟨rfl, (by repeat (first | assumption | exact Kept.refl _ | apply Kept.drew | apply Kept.drewN | apply Kept.alloc | refine Kept.trans ?_ (by assumption)))⟩
          case rest =>
            obtain ⟨rfl, hhK⟩ := hcut
            obtain ⟨hh0, hh1, hh2, hh3, hh4, hh5, _⟩ := keep6 z0 z1 x0 x1 x2 x3 hhK
            go_wp2_with (first | (go_at_call 51; refine (UP2.out _ (hTr.kept hhK)).mono ?_; rintro e w5 ⟨rfl, hk5⟩; have hkk := hhK.trans hk5; have hrow5 := hkk.row hrowA; have f0 := hrow5.frozen 0; have f1 := hrow5.frozen 1; obtain ⟨x0', x1', _⟩ := keep2 x0 x1 hkk))
            have hF := box2_set hrow5 (.int .i64 (i : Int)) (.int .i64 (j : Int))
            have hKF := ((hKr.trans hkk).setCell (p := ⟨na, 0, none⟩) hga (.int .i64 (i : Int))).setCell (p := ⟨na, 1, none⟩) hga (.int .i64 (j : Int))
            go_roundg (R.dist (i, j) (q, x))
            case measure => omega
            case rel => exact ⟨(i, j), (q, x), c + 1, rfl, hus, hb, rfl, by omega, hKF, hF, row_other (row_other (hkk.row hrowB) (Ne.symm hab) _) (Ne.symm hab) _⟩
      · by_cases e0 : (p : Int) = (q : Int)
        · have e1 : ¬ (u : Int) = (x : Int) := fun h => NE.out ⟨e0, h⟩
          have b1' : ((u : Int) == (x : Int)) = false := by simp; omega
          obtain rfl : p = q := by omega
          clear e0
          have hst := Road.near_right OK.out ha hb (by omega)
          have hus := Road.up_spot OK.out hb
          have m3 : ¬ ((R.dep (p, x) : Nat) : Int) ≤ ((R.dep (p, u) : Nat) : Int) := by omega
          have UP2 := Lib.hid (fun W hW => UP.out W (p, x) hW hb)
          obtain ⟨⟨i, j⟩, HQ⟩ : ∃ t, Hid (t = R.up (p, x)) := ⟨_, rfl⟩
          rw [← HQ.out] at UP2 hst hus
          simp only at UP2
          clear HQ
          go_wp2_with fail
          go_cut [17] (fun v17 wx => v17 = .bool false ∧ Kept wr wx)
          case first =>
            go_region_held3 (fun w' => w'.cell? ⟨n0, 0, none⟩ = some (.slice (some ⟨b0, o0, none⟩) R.n c0) ∧ w'.cell? ⟨n0, 1, none⟩ = some (.slice (some ⟨b1, o1, none⟩) R.n c1) ∧ w'.cell? ⟨na, 0, none⟩ = some (.int .i64 p) ∧ w'.cell? ⟨na, 1, none⟩ = some (.int .i64 u) ∧ w'.cell? ⟨nb, 0, none⟩ = some (.int .i64 p) ∧ w'.cell? ⟨nb, 1, none⟩ = some (.int .i64 x) ∧ Kept wr w')
              (exact keep6 z0 z1 x0 x1 x2 x3 (by repeat (first | assumption | exact Kept.refl _ | apply Kept.drew | apply Kept.drewN | apply Kept.alloc | refine Kept.trans ?_ (by assumption))))
              (first | (go_at_call 50; refine (DP.out _ _ _ (hTr.kept (by repeat (first | assumption | exact Kept.refl _ | apply Kept.drew | apply Kept.drewN | apply Kept.alloc | refine Kept.trans ?_ (by assumption)))) (by first | exact ha | exact hb)).mono ?_; rintro e w4 ⟨rfl, hk4⟩))
            all_goals
              go_wp2_with fail
              go_meet
              exact ⟨rfl, (by repeat (first | assumption | exact Kept.refl _ | apply Kept.drew | apply Kept.drewN | apply Kept.alloc | refine Kept.trans ?_ (by assumption)))⟩
          case rest =>
            obtain ⟨rfl, hhK⟩ := hcut
            obtain ⟨hh0, hh1, hh2, hh3, hh4, hh5, _⟩ := keep6 z0 z1 x0 x1 x2 x3 hhK
            go_wp2_with (first | (go_at_call 51; refine (UP2.out _ (hTr.kept hhK)).mono ?_; rintro e w5 ⟨rfl, hk5⟩; have hkk := hhK.trans hk5; have hrow5 := hkk.row hrowB; have f0 := hrow5.frozen 0; have f1 := hrow5.frozen 1; obtain ⟨x0', x1', _⟩ := keep2 x2 x3 hkk))
            have hF := box2_set hrow5 (.int .i64 (i : Int)) (.int .i64 (j : Int))
            have hKF := ((hKr.trans hkk).setCell (p := ⟨nb, 0, none⟩) hgb (.int .i64 (i : Int))).setCell (p := ⟨nb, 1, none⟩) hgb (.int .i64 (j : Int))
            go_roundg (R.dist (p, u) (i, j))
            case measure => omega
            case rel => exact ⟨(p, u), (i, j), c + 1, rfl, ha, hus, rfl, by omega, hKF, row_other (row_other (hkk.row hrowA) hab _) hab _, hF⟩
        · have b0' : ((p : Int) == (q : Int)) = false := by simp; omega
          have hst := Road.near_right OK.out ha hb (by omega)
          have hus := Road.up_spot OK.out hb
          have m3 : ¬ ((R.dep (q, x) : Nat) : Int) ≤ ((R.dep (p, u) : Nat) : Int) := by omega
          have UP2 := Lib.hid (fun W hW => UP.out W (q, x) hW hb)
          obtain ⟨⟨i, j⟩, HQ⟩ : ∃ t, Hid (t = R.up (q, x)) := ⟨_, rfl⟩
          rw [← HQ.out] at UP2 hst hus
          simp only at UP2
          clear HQ
          go_wp2_with fail
          go_cut [17] (fun v17 wx => v17 = .bool false ∧ Kept wr wx)
          case first =>
            go_region_held3 (fun w' => w'.cell? ⟨n0, 0, none⟩ = some (.slice (some ⟨b0, o0, none⟩) R.n c0) ∧ w'.cell? ⟨n0, 1, none⟩ = some (.slice (some ⟨b1, o1, none⟩) R.n c1) ∧ w'.cell? ⟨na, 0, none⟩ = some (.int .i64 p) ∧ w'.cell? ⟨na, 1, none⟩ = some (.int .i64 u) ∧ w'.cell? ⟨nb, 0, none⟩ = some (.int .i64 q) ∧ w'.cell? ⟨nb, 1, none⟩ = some (.int .i64 x) ∧ Kept wr w')
              (exact keep6 z0 z1 x0 x1 x2 x3 (by repeat (first | assumption | exact Kept.refl _ | apply Kept.drew | apply Kept.drewN | apply Kept.alloc | refine Kept.trans ?_ (by assumption))))
              (first | (go_at_call 50; refine (DP.out _ _ _ (hTr.kept (by repeat (first | assumption | exact Kept.refl _ | apply Kept.drew | apply Kept.drewN | apply Kept.alloc | refine Kept.trans ?_ (by assumption)))) (by first | exact ha | exact hb)).mono ?_; rintro e w4 ⟨rfl, hk4⟩))
            all_goals
              go_wp2_with fail
              go_meet
              exact ⟨rfl, (by repeat (first | assumption | exact Kept.refl _ | apply Kept.drew | apply Kept.drewN | apply Kept.alloc | refine Kept.trans ?_ (by assumption)))⟩
          case rest =>
            obtain ⟨rfl, hhK⟩ := hcut
            obtain ⟨hh0, hh1, hh2, hh3, hh4, hh5, _⟩ := keep6 z0 z1 x0 x1 x2 x3 hhK
            go_wp2_with (first | (go_at_call 51; refine (UP2.out _ (hTr.kept hhK)).mono ?_; rintro e w5 ⟨rfl, hk5⟩; have hkk := hhK.trans hk5; have hrow5 := hkk.row hrowB; have f0 := hrow5.frozen 0; have f1 := hrow5.frozen 1; obtain ⟨x0', x1', _⟩ := keep2 x2 x3 hkk))
            have hF := box2_set hrow5 (.int .i64 (i : Int)) (.int .i64 (j : Int))
            have hKF := ((hKr.trans hkk).setCell (p := ⟨nb, 0, none⟩) hgb (.int .i64 (i : Int))).setCell (p := ⟨nb, 1, none⟩) hgb (.int .i64 (j : Int))
            go_roundg (R.dist (p, u) (i, j))
            case measure => omega
            case rel => exact ⟨(p, u), (i, j), c + 1, rfl, ha, hus, rfl, by omega, hKF, row_other (row_other (hkk.row hrowA) hab _) hab _, hF⟩
end Go.Proofs.Ytlgpclnmonpkjaa
