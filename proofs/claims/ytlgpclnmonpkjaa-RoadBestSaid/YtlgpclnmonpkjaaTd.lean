/-
  Package road: above, below.
-/
import Derived.Test.YtlgpclnmonpkjaaTb
namespace Go.Proofs.Ytlgpclnmonpkjaa
open Go.RowKit Go.Deep

/-- a place that lies on the way from another one to the place 0 -/
theorem Road.anc_le {R : Road} (h : R.Ok) {f q : Nat} (hf : f < R.n) (hq : q < R.n) (ht : R.top (f, 0) (q, 0) = R.deep f) : (f, 0) = R.au (q, 0) (R.deep f) ∧ f ≤ q ∧ R.deep f ≤ R.deep q := by
  have hF := Road.place_spot (R := R) hf
  have hQ := Road.place_spot (R := R) hq
  have e := Road.top_au h hF hQ
  have t := Road.top_le h hF hQ
  rw [ht] at e t
  have e1 : R.au (f, 0) (R.deep f) = (f, 0) := Road.au_self R (f, 0)
  rw [e1] at e
  refine ⟨e, ?_, t.2⟩
  have := Road.ups_place_le h (R.dep (q, 0) - R.deep f) (q, 0) hQ
  unfold Road.au at e
  rw [← e] at this
  exact this
theorem Road.anc_step {R : Road} (h : R.Ok) {f q : Nat} (hf : f < R.n) (hq : q < R.n) (ht : R.top (f, 0) (q, 0) = R.deep f) (hne : f ≠ q) : f < q ∧ R.on q < q ∧ R.on q < R.n ∧ (R.on q = f → (q, R.len q - 1) = R.au (q, 0) (R.deep f + 1) ∧ 1 ≤ R.len q) ∧
    (R.on q ≠ f → R.top (f, 0) (R.on q, 0) = R.deep f ∧ R.au (R.on q, 0) (R.deep f + 1) = R.au (q, 0) (R.deep f + 1)) := by
  obtain ⟨h1, h2, h3⟩ := Road.anc_le h hf hq ht
  have hlt : f < q := by omega
  have h4 := h.low q (by omega) hq
  have h5 := h.one q (by omega) hq
  have h6 := Road.deep_on h (p := q) (by omega) hq
  have hF := Road.place_spot (R := R) hf
  have hQ := Road.place_spot (R := R) hq
  have hO := Road.place_spot (R := R) (p := R.on q) (by omega)
  refine ⟨hlt, h4, by omega, fun e => ⟨?_, h5⟩, fun e => ?_⟩
  · subst e
    unfold Road.au
    rw [Road.dep_place, show R.deep q - (R.deep (R.on q) + 1) = R.len q - 1 by omega, Road.ups_place q _ (by omega)]
  · have e1 := Road.top_on h hq hlt
    rw [Road.top_comm h hQ hF, ht, Road.top_comm h hO hF] at e1
    refine ⟨e1.symm, ?_⟩
    have t := Road.top_le h hF hO
    have hd : R.deep f + 1 ≤ R.deep (R.on q) := by
      rw [← e1] at t
      rcases Nat.lt_or_ge (R.deep f) (R.deep (R.on q)) with g | g
      · omega
      · exfalso
        have t2 := t.2
        rw [Road.dep_place] at t2
        have := Road.top_same h hF hO (e1.symm.trans (Road.dep_place R f).symm) (by rw [← e1, Road.dep_place]; omega)
        exact e (congrArg Prod.fst this).symm
    rw [← Road.au_on h (by omega) hq, Road.au_au h hQ hd (by rw [Road.dep_place]; omega)]
theorem Road.up_eq (R : Road) (p u : Nat) : R.up (p, u) = if u + 1 < R.len p then (p, u + 1) else (R.on p, 0) := rfl
set_option maxRecDepth 100000 in
set_option maxHeartbeats 1000000 in
theorem above_any (w : World) (v : Value) (R : Road) (ok : R.Ok) (hT : TreeAt w v R) (s : Sp) (hs : R.spot s) :
    Calls Try.prog 85 #[v, SpV s] w fun e w' => e = .returned (SpV (R.up s)) ∧ Kept w w' := by
  obtain ⟨b0, o0, c0, b1, o1, c1, b2, o2, c2, rfl, k0, k1, _⟩ := hT.open ok
  obtain ⟨p, u⟩ := s
  have hsp := hs.1
  have hle := Road.spot_le ok hs
  have hd := Road.deep_le ok p hsp
  have hn := ok.max
  simp only at hsp hle hd
  unfold SpV
  rw [Road.up_eq]
  simp only
  obtain ⟨n0, HN0⟩ : ∃ n0, w.heap.size = n0 := ⟨_, rfl⟩
  obtain ⟨W1, hW1, hsz, y0, y1, y2, hK⟩ := newbox3 w n0 HN0 (.slice (some ⟨b0, o0, none⟩) R.n c0) (.slice (some ⟨b1, o1, none⟩) R.n c1) (.slice (some ⟨b2, o2, none⟩) R.n c2) 88
  obtain ⟨W2, hW2, hsz2, z0, z1, hK1⟩ := newbox2 W1 (n0 + 1) hsz (.int .i64 (p : Int)) (.int .i64 (u : Int)) 26
  have hrow := box2row W2 (n0 + 1 + 1) hsz2 (.int .i64 0) (.int .i64 0) 26
  obtain ⟨W3, hW3, hsz3, g0, g1, hK2⟩ := newbox2 W2 (n0 + 1 + 1) hsz2 (.int .i64 0) (.int .i64 0) 26
  rw [hW3] at hrow
  have a0 := (hK1.trans hK2).cellSome y0
  have a1 := (hK1.trans hK2).cellSome y1
  have d0 := hK2.cellSome z0
  have d1 := hK2.cellSome z1
  have hK3 := (hK.trans hK1).trans hK2
  have hc := hK3.cellSome (k0 p hsp)
  have hl := hK3.cellSome (k1 p hsp)
  have hge : w.heap.size ≤ n0 + 1 + 1 := by omega
  clear y0 y1 y2 z0 z1 hK hK1 hK2 k0 k1 hT
  have n3 : (p : Int) < (R.n : Int) := by omega
  have hlen := ok.big p hsp
  obtain ⟨l, HL⟩ : ∃ l, Hid (l = R.len p) := ⟨_, rfl⟩
  obtain ⟨q, HQ⟩ : ∃ q, Hid (q = R.on p) := ⟨_, rfl⟩
  rw [← HL.out] at hl hlen ⊢
  rw [← HQ.out] at hc ⊢
  have s1 : IntKind.i64.wrap ((u : Int) + 1) = (u : Int) + 1 := IntWalk.i64_in _ (by omega)
  by_cases hlt : u + 1 < l
  · have n4 : (u : Int) + 1 < (l : Int) := by omega
    rw [if_pos hlt]
    go_enter Try.func85, Try.ntmps85
    go_wp2_with fail
    go_quiet (fail)
    obtain ⟨W4, HW4, hr4⟩ : ∃ W4, W3.drewN nq = W4 ∧ W4.rowIs (n0 + 1 + 1) 26 2 (bx2 (.int .i64 0) (.int .i64 0)) := ⟨_, rfl, ((Kept.refl W3).drewN nq).row hrow⟩
    obtain ⟨b0', b1', _⟩ := keep4 d0 d1 hc hl (HW4 ▸ (Kept.refl W3).drewN nq)
    obtain ⟨r0, r1, hKF⟩ := fin2 (HW4 ▸ hK3.drewN nq) hge hr4 (.int .i64 (p : Int)) (.int .i64 ((u : Int) + 1))
    have f0 := hr4.frozen 0
    have f1 := hr4.frozen 1
    have q0 : W4.cell? ⟨n0 + 1 + 1, 0, none⟩ = some (.int .i64 0) := hr4.cell (i := 0) (by omega)
    have q1 : W4.cell? ⟨n0 + 1 + 1, 1, none⟩ = some (.int .i64 0) := hr4.cell (i := 1) (by omega)
    rw [HW4]
    clear hrow hr4
    go_wp2_with fail
    exact bodyPost_ret (v := .agg #[.int .i64 (p : Int), .int .i64 ((u : Int) + 1)]) (by simp [results, Try.results85, go_sem, r0, r1]) rfl ⟨rfl, hKF⟩
  · have n4 : ¬ (u : Int) + 1 < (l : Int) := by omega
    rw [if_neg hlt]
    go_enter Try.func85, Try.ntmps85
    go_wp2_with fail
    go_quiet (fail)
    obtain ⟨W4, HW4, hr4⟩ : ∃ W4, W3.drewN nq = W4 ∧ W4.rowIs (n0 + 1 + 1) 26 2 (bx2 (.int .i64 0) (.int .i64 0)) := ⟨_, rfl, ((Kept.refl W3).drewN nq).row hrow⟩
    obtain ⟨b0', b1', b2', b3', b4', _⟩ := keep5 d0 d1 hc hl a0 (HW4 ▸ (Kept.refl W3).drewN nq)
    obtain ⟨r0, r1, hKF⟩ := fin2 (HW4 ▸ hK3.drewN nq) hge hr4 (.int .i64 (q : Int)) (.int .i64 0)
    have f0 := hr4.frozen 0
    have f1 := hr4.frozen 1
    have q0 : W4.cell? ⟨n0 + 1 + 1, 0, none⟩ = some (.int .i64 0) := hr4.cell (i := 0) (by omega)
    have q1 : W4.cell? ⟨n0 + 1 + 1, 1, none⟩ = some (.int .i64 0) := hr4.cell (i := 1) (by omega)
    rw [HW4]
    clear hrow hr4
    go_wp2_with fail
    exact bodyPost_ret (v := .agg #[.int .i64 (q : Int), .int .i64 0]) (by simp [results, Try.results85, go_sem, r0, r1]) rfl ⟨rfl, hKF⟩
end Go.Proofs.Ytlgpclnmonpkjaa
