/-
  The reference's Up, depth.
-/
import Derived.Test.YtlgpclnmonpkjaaWc
namespace Go.Proofs.Ytlgpclnmonpkjaa
open Go.RowKit Go.Deep

/-- v is the valid road R -/
def RefAt (w : World) (v : Value) (R : Road) : Prop := ∃ x y, v = .agg #[x, y] ∧ IntsAt w x R.n (fun i => ((R.on i : Nat) : Int)) ∧ IntsAt w y R.n (fun i => ((R.len i : Nat) : Int))
theorem RefAt.kept {w w' : World} {v : Value} {R : Road} (h : RefAt w v R) (k : Kept w w') : RefAt w' v R := by
  obtain ⟨x, y, e, h1, h2⟩ := h
  exact ⟨x, y, e, h1.kept k, h2.kept k⟩
theorem RefAt.of_in {w : World} {v : Value} {nO nL : Nat} {fO fL : Nat → Int} (h : RoadIn w v nO nL fO fL) (hok : roadOk nO nL fO fL = true) : RefAt w v (roadR nO fO fL) := by
  obtain ⟨x, y, e, h1, h2⟩ := h
  obtain ⟨v1, v2⟩ := roadR_vals hok
  have hn : nL = nO := (roadOk_iff.1 hok).2.2.1
  exact ⟨x, y, e, h1.congr (fun i hi => by rw [v1 i hi]), (hn ▸ h2).congr (fun i hi => by rw [v2 i hi])⟩
theorem RefAt.open {w : World} {v : Value} {R : Road} (h : RefAt w v R) (ok : R.Ok) : ∃ b0 o0 c0 b1 o1 c1 : Nat,
    v = .agg #[.slice (some ⟨b0, o0, none⟩) R.n c0, .slice (some ⟨b1, o1, none⟩) R.n c1] ∧
    (∀ i, i < R.n → w.cell? ⟨b0, o0 + i, none⟩ = some (.int .i64 ((R.on i : Nat) : Int))) ∧ (∀ i, i < R.n → w.cell? ⟨b1, o1 + i, none⟩ = some (.int .i64 ((R.len i : Nat) : Int))) := by
  obtain ⟨x, y, e, ⟨a0, b0, o0, c0, rfl, h0, k0⟩, ⟨a1, b1, o1, c1, rfl, h1, k1⟩⟩ := h
  have := ok.pos
  obtain rfl := h0 (by omega)
  obtain rfl := h1 (by omega)
  exact ⟨b0, o0, c0, b1, o1, c1, e, k0, k1⟩
set_option maxRecDepth 100000 in
set_option maxHeartbeats 1000000 in
theorem Up_any (w : World) (v : Value) (R : Road) (ok : R.Ok) (hT : RefAt w v R) (s : Sp) (hs : R.spot s) :
    Calls Try.prog 51 #[v, SpV s] w fun e w' => e = .returned (SpV (R.up s)) ∧ Kept w w' := by
  obtain ⟨b0, o0, c0, b1, o1, c1, rfl, k0, k1⟩ := hT.open ok
  obtain ⟨p, u⟩ := s
  have hsp := hs.1
  have hle := Road.spot_le ok hs
  have hd := Road.deep_le ok p hsp
  have hn := ok.max
  simp only at hsp hle hd
  unfold SpV
  rw [Road.up_eq]
  simp only
  obtain ⟨n0, HN0⟩ : ∃ n0, w.heap.size = n0 := ⟨_, rfl⟩
  obtain ⟨W1, hW1, hsz, y0, y1, hK⟩ := newbox2 w n0 HN0 (.slice (some ⟨b0, o0, none⟩) R.n c0) (.slice (some ⟨b1, o1, none⟩) R.n c1) 24
  obtain ⟨W2, hW2, hsz2, z0, z1, hK1⟩ := newbox2 W1 (n0 + 1) hsz (.int .i64 (p : Int)) (.int .i64 (u : Int)) 26
  have hrow := box2row W2 (n0 + 1 + 1) hsz2 (.int .i64 0) (.int .i64 0) 26
  obtain ⟨W3, hW3, hsz3, g0, g1, hK2⟩ := newbox2 W2 (n0 + 1 + 1) hsz2 (.int .i64 0) (.int .i64 0) 26
  rw [hW3] at hrow
  have a0 := (hK1.trans hK2).cellSome y0
  have a1 := (hK1.trans hK2).cellSome y1
  have d0 := hK2.cellSome z0
  have d1 := hK2.cellSome z1
  have hK3 := (hK.trans hK1).trans hK2
  have hc := hK3.cellSome (k0 p hsp)
  have hl := hK3.cellSome (k1 p hsp)
  have hge : w.heap.size ≤ n0 + 1 + 1 := by omega
  clear y0 y1 z0 z1 hK hK1 hK2 k0 k1 hT
  have n3 : (p : Int) < (R.n : Int) := by omega
  have hlen := ok.big p hsp
  obtain ⟨l, HL⟩ : ∃ l, Hid (l = R.len p) := ⟨_, rfl⟩
  obtain ⟨q, HQ⟩ : ∃ q, Hid (q = R.on p) := ⟨_, rfl⟩
  rw [← HL.out] at hl hlen ⊢
  rw [← HQ.out] at hc ⊢
  have s1 : IntKind.i64.wrap ((u : Int) + 1) = (u : Int) + 1 := IntWalk.i64_in _ (by omega)
  by_cases hlt : u + 1 < l
  · have n4 : (u : Int) + 1 < (l : Int) := by omega
    rw [if_pos hlt]
    go_enter Try.func51, Try.ntmps51
    go_wp2_with fail
    go_quiet (fail)
    obtain ⟨W4, HW4, hr4⟩ : ∃ W4, W3.drewN nq = W4 ∧ W4.rowIs (n0 + 1 + 1) 26 2 (bx2 (.int .i64 0) (.int .i64 0)) := ⟨_, rfl, ((Kept.refl W3).drewN nq).row hrow⟩
    obtain ⟨b0', b1', _⟩ := keep4 d0 d1 hc hl (HW4 ▸ (Kept.refl W3).drewN nq)
    obtain ⟨r0, r1, hKF⟩ := fin2 (HW4 ▸ hK3.drewN nq) hge hr4 (.int .i64 (p : Int)) (.int .i64 ((u : Int) + 1))
    have f0 := hr4.frozen 0
    have f1 := hr4.frozen 1
    have q0 : W4.cell? ⟨n0 + 1 + 1, 0, none⟩ = some (.int .i64 0) := hr4.cell (i := 0) (by omega)
    have q1 : W4.cell? ⟨n0 + 1 + 1, 1, none⟩ = some (.int .i64 0) := hr4.cell (i := 1) (by omega)
    rw [HW4]
    clear hrow hr4
    go_wp2_with fail
    exact bodyPost_ret (v := .agg #[.int .i64 (p : Int), .int .i64 ((u : Int) + 1)]) (by simp [results, Try.results51, go_sem, r0, r1]) rfl ⟨rfl, hKF⟩
  · have n4 : ¬ (u : Int) + 1 < (l : Int) := by omega
    rw [if_neg hlt]
    go_enter Try.func51, Try.ntmps51
    go_wp2_with fail
    go_quiet (fail)
    obtain ⟨W4, HW4, hr4⟩ : ∃ W4, W3.drewN nq = W4 ∧ W4.rowIs (n0 + 1 + 1) 26 2 (bx2 (.int .i64 0) (.int .i64 0)) := ⟨_, rfl, ((Kept.refl W3).drewN nq).row hrow⟩
    obtain ⟨b0', b1', b2', b3', b4', _⟩ := keep5 d0 d1 hc hl a0 (HW4 ▸ (Kept.refl W3).drewN nq)
    obtain ⟨r0, r1, hKF⟩ := fin2 (HW4 ▸ hK3.drewN nq) hge hr4 (.int .i64 (q : Int)) (.int .i64 0)
    have f0 := hr4.frozen 0
    have f1 := hr4.frozen 1
    have q0 : W4.cell? ⟨n0 + 1 + 1, 0, none⟩ = some (.int .i64 0) := hr4.cell (i := 0) (by omega)
    have q1 : W4.cell? ⟨n0 + 1 + 1, 1, none⟩ = some (.int .i64 0) := hr4.cell (i := 1) (by omega)
    rw [HW4]
    clear hrow hr4
    go_wp2_with fail
    exact bodyPost_ret (v := .agg #[.int .i64 (q : Int), .int .i64 0]) (by simp [results, Try.results51, go_sem, r0, r1]) rfl ⟨rfl, hKF⟩
theorem Road.dep_root {R : Road} (h : R.Ok) {s : Sp} (hs : R.spot s) : R.dep s = 0 ↔ s = (0, 0) := by
  constructor
  · exact Road.dep_zero h hs
  · intro e; subst e; rfl
set_option maxRecDepth 100000 in
set_option maxHeartbeats 2000000 in
theorem rdepth_any (w : World) (v : Value) (R : Road) (ok : R.Ok) (hT : RefAt w v R) (s : Sp) (hs : R.spot s) :
    Calls Try.prog 50 #[v, SpV s] w fun e w' => e = .returned (.int .i64 ((R.dep s : Nat) : Int)) ∧ Kept w w' := by
  have hT0 := hT
  obtain ⟨b0, o0, c0, b1, o1, c1, rfl, _, _⟩ := hT.open ok
  have UP := Lib.hid (fun W s (hW : RefAt W (.agg #[.slice (some ⟨b0, o0, none⟩) R.n c0, .slice (some ⟨b1, o1, none⟩) R.n c1]) R) (hs : R.spot s) => Up_any W _ R ok hW s hs)
  unfold SpV at UP ⊢
  obtain ⟨n0, HN0⟩ : ∃ n0, w.heap.size = n0 := ⟨_, rfl⟩
  obtain ⟨W1, hW1, hsz, y0, y1, hK⟩ := newbox2 w n0 HN0 (.slice (some ⟨b0, o0, none⟩) R.n c0) (.slice (some ⟨b1, o1, none⟩) R.n c1) 24
  have hrow := box2row W1 (n0 + 1) hsz (.int .i64 ((s.1 : Nat) : Int)) (.int .i64 ((s.2 : Nat) : Int)) 26
  obtain ⟨W2, hW2, hsz2, _, _, hK1⟩ := newbox2 W1 (n0 + 1) hsz (.int .i64 ((s.1 : Nat) : Int)) (.int .i64 ((s.2 : Nat) : Int)) 26
  rw [hW2] at hrow
  have hT1 := hT0.kept hK
  have hg1 : W1.heap.size ≤ n0 + 1 := by omega
  have hdl := Road.dep_le ok hs
  have OK := Lib.hid ok
  clear hT hT0
  go_enter Try.func50, Try.ntmps50
  go_wp2_with fail
  obtain ⟨np, HNP⟩ : ∃ np, n0 + 1 = np := ⟨_, rfl⟩
  rw [HNP] at hrow hg1 ⊢
  clear hW1 hW2 hsz hsz2 HNP
  go_loopg [5] (R.dep s) (fun g s5 wr => ∃ (t : Sp) (c : Nat), g = R.dep t ∧ R.spot t ∧ s5 = .int .i64 c ∧ R.dep t + c = R.dep s ∧ Kept W1 wr ∧ wr.rowIs np 26 2 (bx2 (.int .i64 ((t.1 : Nat) : Int)) (.int .i64 ((t.2 : Nat) : Int))))
  case atStart => exact ⟨s, 0, rfl, hs, rfl, by omega, hK1, hrow⟩
  case round =>
    clear hrow hK1
    obtain ⟨t, c, rfl, ht, rfl, hc, hKr, hrow⟩ := hrel
    obtain ⟨z0, z1, _⟩ := keep2 y0 y1 hKr
    have x0 : wr.cell? ⟨np, 0, none⟩ = some (.int .i64 ((t.1 : Nat) : Int)) := hrow.cell (i := 0) (by omega)
    have x1 : wr.cell? ⟨np, 1, none⟩ = some (.int .i64 ((t.2 : Nat) : Int)) := hrow.cell (i := 1) (by omega)
    by_cases e : t = (0, 0)
    · subst e
      have e0 : R.dep (0, 0) = 0 := rfl
      go_wp2_with fail
      go_ret
      exact ⟨ret_int (by omega), hK.trans hKr⟩
    · have hd1 := Road.dep_up OK.out ht
      have hd0 : R.dep t ≠ 0 := fun h => e (Road.dep_zero OK.out ht h)
      have hus := Road.up_spot OK.out ht
      have UP2 := Lib.hid (fun W hW => UP.out W t hW ht)
      obtain ⟨⟨p, u⟩, HP⟩ : ∃ p, p = t := ⟨_, rfl⟩
      obtain ⟨⟨q, x⟩, HQ⟩ : ∃ p, Hid (p = R.up t) := ⟨_, rfl⟩
      rw [← HQ.out] at UP2 hd1 hus
      subst HP
      simp only at x0 x1 UP2 hrow
      have hTr := hT1.kept hKr
      have s1 : IntKind.i64.wrap ((c : Int) + 1) = (c : Int) + 1 := IntWalk.i64_in _ (by omega)
      have ne : ¬ ((p : Int) = 0 ∧ (u : Int) = 0) := by
        rintro ⟨h1, h2⟩
        exact e (by rw [show p = 0 by omega, show u = 0 by omega])
      have NE := Lib.hid ne
      clear ne e hd0 HQ
      by_cases e0 : (p : Int) = 0
      · have e1 : ¬ (u : Int) = 0 := fun h => NE.out ⟨e0, h⟩
        have b1' : ((u : Int) == 0) = false := by simp; omega
        obtain rfl : p = 0 := by omega
        have hd0 : R.dep (0, u) ≠ 0 := fun h => e1 (by have := Road.dep_zero OK.out ht h; injection this with _ h; omega)
        clear e0
        go_wp2_with (first | (go_at_call 51; refine (UP2.out _ hTr).mono ?_; rintro e w5 ⟨rfl, hk5⟩; have hrow5 := hk5.row hrow; have f0 := hrow5.frozen 0; have f1 := hrow5.frozen 1; obtain ⟨x0', x1', _⟩ := keep2 x0 x1 hk5))
        have hF := box2_set hrow5 (.int .i64 (q : Int)) (.int .i64 (x : Int))
        go_roundg (R.dep (q, x))
        case measure => omega
        case rel => exact ⟨(q, x), c + 1, rfl, hus, rfl, by omega, ((hKr.trans hk5).setCell (p := ⟨np, 0, none⟩) hg1 _).setCell (p := ⟨np, 1, none⟩) hg1 _, hF⟩
      · have b0' : ((p : Int) == 0) = false := by simp; omega
        have hd0 : R.dep (p, u) ≠ 0 := fun h => e0 (by have := Road.dep_zero OK.out ht h; injection this with h _; omega)
        go_wp2_with (first | (go_at_call 51; refine (UP2.out _ hTr).mono ?_; rintro e w5 ⟨rfl, hk5⟩; have hrow5 := hk5.row hrow; have f0 := hrow5.frozen 0; have f1 := hrow5.frozen 1; obtain ⟨x0', x1', _⟩ := keep2 x0 x1 hk5))
        have hF := box2_set hrow5 (.int .i64 (q : Int)) (.int .i64 (x : Int))
        go_roundg (R.dep (q, x))
        case measure => omega
        case rel => exact ⟨(q, x), c + 1, rfl, hus, rfl, by omega, ((hKr.trans hk5).setCell (p := ⟨np, 0, none⟩) hg1 _).setCell (p := ⟨np, 1, none⟩) hg1 _, hF⟩
end Go.Proofs.Ytlgpclnmonpkjaa
