/-
  Package road: below, towards.
-/
import Derived.Test.YtlgpclnmonpkjaaTd
namespace Go.Proofs.Ytlgpclnmonpkjaa
open Go.RowKit Go.Deep

set_option maxRecDepth 100000 in
set_option maxHeartbeats 1000000 in
theorem below_any (w : World) (v : Value) (R : Road) (ok : R.Ok) (hT : TreeAt w v R) (f q0 : Nat) (hf : f < R.n) (hq0 : q0 < R.n) (ht0 : R.top (f, 0) (q0, 0) = R.deep f) (hne0 : f ≠ q0) :
    Calls Try.prog 86 #[v, .int .i64 f, .int .i64 q0] w fun e w' => e = .returned (SpV (R.au (q0, 0) (R.deep f + 1))) ∧ Kept w w' := by
  obtain ⟨b0, o0, c0, b1, o1, c1, b2, o2, c2, rfl, k0, k1, _⟩ := hT.open ok
  have hn := ok.max
  obtain ⟨n0, HN0⟩ : ∃ n0, w.heap.size = n0 := ⟨_, rfl⟩
  obtain ⟨W1, hW1, hsz, y0, y1, y2, hK⟩ := newbox3 w n0 HN0 (.slice (some ⟨b0, o0, none⟩) R.n c0) (.slice (some ⟨b1, o1, none⟩) R.n c1) (.slice (some ⟨b2, o2, none⟩) R.n c2) 88
  have hrow := box2row W1 (n0 + 1) hsz (.int .i64 0) (.int .i64 0) 26
  obtain ⟨W2, hW2, hsz2, g0, g1, hK1⟩ := newbox2 W1 (n0 + 1) hsz (.int .i64 0) (.int .i64 0) 26
  rw [hW2] at hrow
  have a0 := hK1.cellSome y0
  have a1 := hK1.cellSome y1
  have hK2 := hK.trans hK1
  have hge : w.heap.size ≤ n0 + 1 := by omega
  have HC := Lib.hid (fun i hi => hK2.cellSome (k0 i hi))
  have HL := Lib.hid (fun i hi => hK2.cellSome (k1 i hi))
  have OK := Lib.hid ok
  clear y0 y1 y2 hK hK1 k0 k1 hT ok
  go_enter Try.func86, Try.ntmps86
  go_wp2_with fail
  clear hW1 hW2 hsz hsz2
  go_loopg [2] (q0 + 1) (fun g s2 wr => ∃ q : Nat, g = q + 1 ∧ s2 = .int .i64 q ∧ q < R.n ∧ f ≠ q ∧ Hid (R.top (f, 0) (q, 0) = R.deep f) ∧ Hid (R.au (q, 0) (R.deep f + 1) = R.au (q0, 0) (R.deep f + 1)) ∧ Kept W2 wr)
  case atStart => exact ⟨q0, rfl, rfl, hq0, hne0, ht0, rfl, Kept.refl _⟩
  case round =>
    obtain ⟨q, rfl, rfl, hq, hne, ht, hau, hK⟩ := hrel
    obtain ⟨r1, r2, r3, r4, r5⟩ := Road.anc_step OK.out hf hq ht.out hne
    have R4 := Lib.hid r4
    have R5 := Lib.hid r5
    have hc := hK.cellSome (HC.out q hq)
    have hl := hK.cellSome (HL.out q hq)
    have hlen := OK.out.big q hq
    obtain ⟨x0, x1, _⟩ := keep2 a0 a1 hK
    have hr4 := hK.row hrow
    obtain ⟨q', HQ⟩ : ∃ q', Hid (q' = R.on q) := ⟨_, rfl⟩
    obtain ⟨l, HL⟩ : ∃ l, Hid (l = R.len q) := ⟨_, rfl⟩
    rw [← HQ.out] at hc r2 r3 R4 R5
    rw [← HL.out] at hl R4 hlen
    clear r4 r5 hrow g0 g1
    have n3 : (q : Int) < (R.n : Int) := by omega
    by_cases e : q' = f
    · obtain ⟨h1, h2⟩ := R4.out e
      have n4 : ((q' : Int) != (f : Int)) = false := by simp; omega
      obtain ⟨y0, y1, hKF⟩ := fin2 (hK2.trans hK) hge hr4 (.int .i64 (q : Int)) (.int .i64 ((l : Int) - 1))
      have f0 := hr4.frozen 0
      have f1 := hr4.frozen 1
      have q0' : wr.cell? ⟨n0 + 1, 0, none⟩ = some (.int .i64 0) := hr4.cell (i := 0) (by omega)
      have q1' : wr.cell? ⟨n0 + 1, 1, none⟩ = some (.int .i64 0) := hr4.cell (i := 1) (by omega)
      have s1 : IntKind.i64.wrap ((l : Int) - 1) = (l : Int) - 1 := IntWalk.i64_in _ (by omega)
      have hv : Hid (SpV (R.au (q0, 0) (R.deep f + 1)) = .agg #[.int .i64 (q : Int), .int .i64 ((l : Int) - 1)]) := by
        show _ = _
        rw [← hau.out, ← h1]
        unfold SpV
        simp only
        rw [show ((l - 1 : Nat) : Int) = (l : Int) - 1 by omega]
      clear hr4 HL HQ R4 R5 h1
      go_wp2_with fail
      exact bodyPost_ret (v := .agg #[.int .i64 (q : Int), .int .i64 ((l : Int) - 1)]) (by simp [results, Try.results86, go_sem, y0, y1]) rfl ⟨by rw [hv.out], hKF⟩
    · obtain ⟨h1, h2⟩ := R5.out e
      have H1 := Lib.hid h1
      have H2 := Lib.hid h2
      have n4 : ((q' : Int) != (f : Int)) = true := by simp; omega
      clear hr4 HL R4 R5 h1 h2
      go_wp2_with fail
      go_roundg (q' + 1)
      case measure => omega
      case rel => exact ⟨q', rfl, rfl, r3, (fun h => e h.symm), H1.out, by show _ = _; rw [H2.out]; exact hau.out, hK⟩
/-- as the program tells it: is the place of s where the ways of s and of the place t meet -/
theorem Road.to_eq {R : Road} (h : R.Ok) {s : Sp} {t : Nat} (hs : R.spot s) (ht : t < R.n) (hne : s ≠ (t, 0)) :
    (R.meet s.1 t ≠ s.1 → R.to s (t, 0) = R.up s) ∧ (R.meet s.1 t = s.1 → 0 < s.2 → R.to s (t, 0) = (s.1, s.2 - 1)) ∧ (R.meet s.1 t = s.1 → s.2 = 0 → R.to s (t, 0) = R.au (t, 0) (R.deep s.1 + 1) ∧ R.top (s.1, 0) (t, 0) = R.deep s.1 ∧ s.1 ≠ t) := by
  obtain ⟨p, u⟩ := s
  have hp := hs.1
  have hu := hs.2
  simp only at hp hu ⊢
  obtain ⟨m1, m2, m3⟩ := Road.meet_spec h hp ht
  have hP := Road.place_spot (R := R) hp
  have hTt := Road.place_spot (R := R) ht
  have hle := Road.spot_le h hs
  have hlen := Road.len_le_deep h hp
  simp only at hle
  have tp := Road.top_prog h hs hTt
  have tl := Road.top_le h hP hTt
  simp only [Road.dep_place] at tp tl
  have hdep : R.dep (p, u) = R.deep p - u := rfl
  refine ⟨fun hm => ?_, fun hm h0 => ?_, fun hm h0 => ?_⟩
  · have h1 : p ≠ 0 := by
      intro e
      subst e
      apply hm
      have := Road.ups_place_le h (R.dep (0, 0) - R.top (0, 0) (t, 0)) (0, 0) hP
      unfold Road.au at m2
      rw [← m2] at this
      simp only at this
      omega
    have h2 := Road.deep_on h (p := p) (by omega) hp
    have h3 : R.top (p, 0) (t, 0) ≤ R.deep (R.on p) := by
      rcases Nat.lt_or_ge (R.deep (R.on p)) (R.top (p, 0) (t, 0)) with g | g
      · exfalso
        have e3 : R.au (p, 0) (R.top (p, 0) (t, 0)) = (p, R.deep p - R.top (p, 0) (t, 0)) := by
          unfold Road.au
          rw [Road.dep_place]
          exact Road.ups_place p _ (by omega)
        rw [e3] at m2
        exact hm (congrArg Prod.fst m2)
      · exact g
    have h4 := h.one p (by omega) hp
    unfold Road.to
    rw [if_pos (by omega)]
  · have e1 : R.top (p, 0) (t, 0) = R.deep p := by rw [← m3, hm]
    unfold Road.to
    rw [if_neg (by omega)]
    have e2 : R.au (t, 0) (R.dep (p, u) + 1) = R.au (p, 0) (R.dep (p, u) + 1) := ((Road.top_ge h hP hTt (d := R.dep (p, u) + 1) (by rw [Road.dep_place]; omega) (by rw [Road.dep_place]; omega)).1 (by omega)).symm
    rw [e2]
    unfold Road.au
    rw [Road.dep_place, show R.deep p - (R.dep (p, u) + 1) = u - 1 by omega, Road.ups_place p _ (by omega)]
  · subst h0
    have e1 : R.top (p, 0) (t, 0) = R.deep p := by rw [← m3, hm]
    refine ⟨?_, e1, fun e => hne (by rw [e])⟩
    unfold Road.to
    rw [if_neg (by omega)]
    rfl
end Go.Proofs.Ytlgpclnmonpkjaa
