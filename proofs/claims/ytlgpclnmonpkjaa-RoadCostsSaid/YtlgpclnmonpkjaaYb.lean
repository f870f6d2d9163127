/-
  The law RoadSteps.
-/
import Derived.Test.YtlgpclnmonpkjaaWm
namespace Go.Proofs.Ytlgpclnmonpkjaa
open Go.RowKit Go.Deep

theorem one_at {w : World} {b : Nat} {c : Int} (h : w.cell? ⟨b, 0, none⟩ = some (.int .i64 c)) : IntsAt w (.slice (some ⟨b, 0, none⟩) 1 1) 1 (fun _ => c) := ⟨_, _, _, _, rfl, fun _ => rfl, fun i hi => by
  obtain rfl : i = 0 := by omega
  exact h⟩
theorem there_has {R : Road} {A B : Nat → Int} {k : Nat} (hv : ∀ i, i < k → R.isSp (A i) (B i) = true) (c : Int) (hc : 0 ≤ c) : hasSp (handsN A B) (c.toNat, 0) k = thereB A B c k := by
  cases h : thereB A B c k with
  | true =>
    refine hasSp_iff.2 ?_
    unfold thereB at h
    have h2 : allN (offB A B c) k = false := by simpa using h
    have h3 : ¬ ∀ i, i < k → offB A B c i = true := fun g => by rw [allN_true.2 g] at h2; cases h2
    have h4 : ∃ i, i < k ∧ ¬ offB A B c i = true := Classical.byContradiction fun g => h3 fun i hi => Classical.byContradiction fun g2 => g ⟨i, hi, g2⟩
    obtain ⟨i, hi, hn⟩ := h4
    unfold offB at hn
    simp at hn
    exact ⟨i, hi, by unfold handsN; rw [hn.1, hn.2]; rfl⟩
  | false =>
    cases h2 : hasSp (handsN A B) (c.toNat, 0) k with
    | false => rfl
    | true =>
      obtain ⟨i, hi, e⟩ := hasSp_iff.1 h2
      unfold handsN at e
      injection e with e0 e1
      obtain ⟨_, g1, _, g3⟩ := isSp_spot (hv i hi)
      rw [thereB_true hi (by omega) (by omega)] at h
      cases h
theorem RoadSteps_any (w : World) (aO aL : Option Addr) (nO cO nL cL : Nat) (fO fL : Nat → Int) (hO : IntsAt w (.slice aO nO cO) nO fO) (hO1 : nO ≤ cO) (hO2 : aO = none → cO = 0) (hO3 : cO ≤ maxLen) (hL : IntsAt w (.slice aL nL cL) nL fL) (hL1 : nL ≤ cL) (hL2 : aL = none → cL = 0) (hL3 : cL ≤ maxLen)
    (aS : Option Addr) (nS cS : Nat) (A B : Nat → Int) (hS : PairsAt w (.slice aS nS cS) nS A B) (hS1 : nS ≤ cS) (hS2 : aS = none → cS = 0) (hS3 : cS ≤ maxLen) (c : Int) :
    Calls Try.prog 4 #[.agg #[.slice aO nO cO, .slice aL nL cL], .slice aS nS cS, .int .i64 c] w fun e w' => e = .returned (.bool true) ∧ Kept w w' := by
  have FW := Lib.hid (fun W hO hL => few_any W aO aL nO cO nL cL fO fL hO hO1 hO2 hO3 hL hL1 hL2 hL3)
  have SPO := Lib.hid (fun W hS => spots_any W aS nS cS A B hS hS1 hS2 hS3)
  obtain ⟨n0, HN0⟩ : ∃ n0, w.heap.size = n0 := ⟨_, rfl⟩
  obtain ⟨W1, hW1, hsz, q0, q1, hKw⟩ := newbox2 w n0 HN0 (.slice aO nO cO) (.slice aL nL cL) 24
  clear hO1 hO2 hO3 hL1 hL2 hL3 hS1 hS2 hS3
  cases e1 : roadOk (min nO 11) (min nL 11) fO fL with
  | false =>
    have E1 := Lib.hid e1
    have hbad : Hid (withOk (min nO 11) (min nL 11) fO fL (min nS 4) A B 1 (fun _ => c) = false) := by show _ = _; unfold withOk; rw [e1]; rfl
    clear e1
    go_enter Try.func4, Try.ntmps4
    go_wp2_with (first | (go_at_call 15; refine (FW.out _ (hO.kept hKw) (hL.kept hKw)).mono ?_; rintro e w4 ⟨fv, rfl, hRf, hkf⟩; obtain ⟨_, _, rfl, ⟨fa, fb, fo, fc, rfl, _, _⟩, ⟨ga, gb, go, gc, rfl, _, _⟩⟩ := id hRf) | (go_at_call 21; refine (SPO.out _ (hS.kept (hKw.trans hkf))).mono ?_; rintro e w5 ⟨sv, rfl, hO5, hk5⟩; have hP5 := PairsAt.of_prL hO5; obtain ⟨sa, sb, so, sc, rfl, _, _⟩ := id hP5; obtain ⟨W6, hW6, hsz6, r0, r1, hK6⟩ := newbox2 w5 w5.heap.size rfl (.slice fa (min nO 11) fc) (.slice ga (min nL 11) gc) 24; have hRf6 := hRf.kept (hk5.trans hK6); have hP6 := hP5.kept hK6; have hK06 := ((hKw.trans hkf).trans hk5).trans hK6) | (go_at_call 22; refine (Step_any _ _ _ (min nO 11) (min nL 11) fO fL hRf6 (by omega) (by omega) (min nS 4) A B hP6 (by omega) c).mono ?_; intro e w7 hd; obtain ⟨hd1, hd2, hd3, hk7⟩ := hd; obtain rfl := hd3 hbad.out; obtain ⟨b0, b1, _⟩ := keep2 r0 r1 hk7) | (go_at_call 17; refine (rRoad_any _ _ (min nO 11) (min nL 11) fO fL (hRf6.kept hk7) (by omega) (by omega)).mono ?_; rw [E1.out]; rintro e w8 ⟨rfl, hk8⟩; obtain ⟨c0, c1, _⟩ := keep2 b0 b1 hk8) | (go_at_call 19; refine (lives_any _).mono ?_; rintro e w15 ⟨rfl, hk15⟩))
    go_ret
    exact ⟨rfl, hK06.trans (by repeat (first | assumption | exact Kept.refl _ | apply Kept.drew | apply Kept.drewN | apply Kept.alloc | refine Kept.trans ?_ (by assumption)))⟩
  | true =>
    have E1 := Lib.hid e1
    have ok := roadR_ok e1
    cases e2 : handsOk (roadR (min nO 11) fO fL) (min nS 4) A B with
    | false =>
      have E2 := Lib.hid e2
      have hbad : Hid (withOk (min nO 11) (min nL 11) fO fL (min nS 4) A B 1 (fun _ => c) = false) := by show _ = _; unfold withOk; rw [e1, e2]; rfl
      clear e1 e2
      go_enter Try.func4, Try.ntmps4
      go_wp2_with (first | (go_at_call 15; refine (FW.out _ (hO.kept hKw) (hL.kept hKw)).mono ?_; rintro e w4 ⟨fv, rfl, hRf, hkf⟩; obtain ⟨_, _, rfl, ⟨fa, fb, fo, fc, rfl, _, _⟩, ⟨ga, gb, go, gc, rfl, _, _⟩⟩ := id hRf) | (go_at_call 21; refine (SPO.out _ (hS.kept (hKw.trans hkf))).mono ?_; rintro e w5 ⟨sv, rfl, hO5, hk5⟩; have hP5 := PairsAt.of_prL hO5; obtain ⟨sa, sb, so, sc, rfl, _, _⟩ := id hP5; obtain ⟨W6, hW6, hsz6, r0, r1, hK6⟩ := newbox2 w5 w5.heap.size rfl (.slice fa (min nO 11) fc) (.slice ga (min nL 11) gc) 24; have hRf6 := hRf.kept (hk5.trans hK6); have hP6 := hP5.kept hK6; have hK06 := ((hKw.trans hkf).trans hk5).trans hK6) | (go_at_call 22; refine (Step_any _ _ _ (min nO 11) (min nL 11) fO fL hRf6 (by omega) (by omega) (min nS 4) A B hP6 (by omega) c).mono ?_; intro e w7 hd; obtain ⟨hd1, hd2, hd3, hk7⟩ := hd; obtain rfl := hd3 hbad.out; obtain ⟨b0, b1, _⟩ := keep2 r0 r1 hk7) | (go_at_call 17; refine (rRoad_any _ _ (min nO 11) (min nL 11) fO fL (hRf6.kept hk7) (by omega) (by omega)).mono ?_; rw [E1.out]; rintro e w8 ⟨rfl, hk8⟩; obtain ⟨c0, c1, _⟩ := keep2 b0 b1 hk8) | (go_at_call 23; refine (rHands_any _ _ _ _ ok (RefAt.of_in (hRf6.kept (hk7.trans hk8)) E1.out) (min nS 4) A B (hP6.kept (hk7.trans hk8)) (by omega)).mono ?_; rw [E2.out]; rintro e w9 ⟨rfl, hk9⟩; obtain ⟨d0, d1, _⟩ := keep2 c0 c1 hk9; obtain ⟨W10, hW10, hsz10, x0, hK10⟩ := newbox1 w9 w9.heap.size rfl (.int .i64 c) 3; have hk710 := (hk7.trans hk8).trans (hk9.trans hK10)) | (go_at_call 19; refine (lives_any _).mono ?_; rintro e w15 ⟨rfl, hk15⟩))
      go_ret
      exact ⟨rfl, hK06.trans (by repeat (first | assumption | exact Kept.refl _ | apply Kept.drew | apply Kept.drewN | apply Kept.alloc | refine Kept.trans ?_ (by assumption)))⟩
    | true =>
      have E2 := Lib.hid e2
      cases e3 : callsOk (roadR (min nO 11) fO fL) 1 (fun _ => c) with
      | false =>
        have E3 := Lib.hid e3
        have hbad : Hid (withOk (min nO 11) (min nL 11) fO fL (min nS 4) A B 1 (fun _ => c) = false) := by show _ = _; unfold withOk; rw [e1, e2, e3]; rfl
        clear e1 e2 e3
        go_enter Try.func4, Try.ntmps4
        go_wp2_with (first | (go_at_call 15; refine (FW.out _ (hO.kept hKw) (hL.kept hKw)).mono ?_; rintro e w4 ⟨fv, rfl, hRf, hkf⟩; obtain ⟨_, _, rfl, ⟨fa, fb, fo, fc, rfl, _, _⟩, ⟨ga, gb, go, gc, rfl, _, _⟩⟩ := id hRf) | (go_at_call 21; refine (SPO.out _ (hS.kept (hKw.trans hkf))).mono ?_; rintro e w5 ⟨sv, rfl, hO5, hk5⟩; have hP5 := PairsAt.of_prL hO5; obtain ⟨sa, sb, so, sc, rfl, _, _⟩ := id hP5; obtain ⟨W6, hW6, hsz6, r0, r1, hK6⟩ := newbox2 w5 w5.heap.size rfl (.slice fa (min nO 11) fc) (.slice ga (min nL 11) gc) 24; have hRf6 := hRf.kept (hk5.trans hK6); have hP6 := hP5.kept hK6; have hK06 := ((hKw.trans hkf).trans hk5).trans hK6) | (go_at_call 22; refine (Step_any _ _ _ (min nO 11) (min nL 11) fO fL hRf6 (by omega) (by omega) (min nS 4) A B hP6 (by omega) c).mono ?_; intro e w7 hd; obtain ⟨hd1, hd2, hd3, hk7⟩ := hd; obtain rfl := hd3 hbad.out; obtain ⟨b0, b1, _⟩ := keep2 r0 r1 hk7) | (go_at_call 17; refine (rRoad_any _ _ (min nO 11) (min nL 11) fO fL (hRf6.kept hk7) (by omega) (by omega)).mono ?_; rw [E1.out]; rintro e w8 ⟨rfl, hk8⟩; obtain ⟨c0, c1, _⟩ := keep2 b0 b1 hk8) | (go_at_call 23; refine (rHands_any _ _ _ _ ok (RefAt.of_in (hRf6.kept (hk7.trans hk8)) E1.out) (min nS 4) A B (hP6.kept (hk7.trans hk8)) (by omega)).mono ?_; rw [E2.out]; rintro e w9 ⟨rfl, hk9⟩; obtain ⟨d0, d1, _⟩ := keep2 c0 c1 hk9; obtain ⟨W10, hW10, hsz10, x0, hK10⟩ := newbox1 w9 w9.heap.size rfl (.int .i64 c) 3; have hk710 := (hk7.trans hk8).trans (hk9.trans hK10)) | (go_at_call 24; refine (rCalls_any _ _ _ _ ok (RefAt.of_in (hRf6.kept hk710) E1.out) 1 (fun _ => c) (one_at x0) (by omega)).mono ?_; rw [E3.out]; rintro e w11 ⟨rfl, hk11⟩; have hk711 := hk710.trans hk11; have hk811 := (hk8.trans (hk9.trans hK10)).trans hk11; obtain ⟨f0, f1, _⟩ := keep2 r0 r1 hk711) | (go_at_call 19; refine (lives_any _).mono ?_; rintro e w15 ⟨rfl, hk15⟩))
        go_ret
        exact ⟨rfl, hK06.trans (by repeat (first | assumption | exact Kept.refl _ | apply Kept.drew | apply Kept.drewN | apply Kept.alloc | refine Kept.trans ?_ (by assumption)))⟩
      | true =>
        have E3 := Lib.hid e3
        have hgood0 : withOk (min nO 11) (min nL 11) fO fL (min nS 4) A B 1 (fun _ => c) = true := by unfold withOk; rw [e1, e2, e3]; rfl
        have hgood := Lib.hid hgood0
        obtain ⟨p1, hk1, hk3, hm12, p5, p6⟩ := withOk_parts hgood0
        obtain ⟨hc0, hcn⟩ := p6 0 (by omega)
        have hth := there_has p5 c hc0
        cases e4 : thereB A B c (min nS 4) with
        | true =>
          have E4 := Lib.hid e4
          rw [e4] at hth
          have hthere := Lib.hid hth
          clear e1 e2 e3 e4 hth hgood0 p1 hk1 hk3 hm12 p5 p6 hc0 hcn
          go_enter Try.func4, Try.ntmps4
          go_wp2_with (first | (go_at_call 15; refine (FW.out _ (hO.kept hKw) (hL.kept hKw)).mono ?_; rintro e w4 ⟨fv, rfl, hRf, hkf⟩; obtain ⟨_, _, rfl, ⟨fa, fb, fo, fc, rfl, _, _⟩, ⟨ga, gb, go, gc, rfl, _, _⟩⟩ := id hRf) | (go_at_call 21; refine (SPO.out _ (hS.kept (hKw.trans hkf))).mono ?_; rintro e w5 ⟨sv, rfl, hO5, hk5⟩; have hP5 := PairsAt.of_prL hO5; obtain ⟨sa, sb, so, sc, rfl, _, _⟩ := id hP5; obtain ⟨W6, hW6, hsz6, r0, r1, hK6⟩ := newbox2 w5 w5.heap.size rfl (.slice fa (min nO 11) fc) (.slice ga (min nL 11) gc) 24; have hRf6 := hRf.kept (hk5.trans hK6); have hP6 := hP5.kept hK6; have hK06 := ((hKw.trans hkf).trans hk5).trans hK6) | (go_at_call 22; refine (Step_any _ _ _ (min nO 11) (min nL 11) fO fL hRf6 (by omega) (by omega) (min nS 4) A B hP6 (by omega) c).mono ?_; intro e w7 hd; obtain ⟨hd1, hd2, hd3, hk7⟩ := hd; obtain rfl := hd2 hgood.out hthere.out; obtain ⟨b0, b1, _⟩ := keep2 r0 r1 hk7) | (go_at_call 17; refine (rRoad_any _ _ (min nO 11) (min nL 11) fO fL (hRf6.kept hk7) (by omega) (by omega)).mono ?_; rw [E1.out]; rintro e w8 ⟨rfl, hk8⟩; obtain ⟨c0, c1, _⟩ := keep2 b0 b1 hk8) | (go_at_call 23; refine (rHands_any _ _ _ _ ok (RefAt.of_in (hRf6.kept (hk7.trans hk8)) E1.out) (min nS 4) A B (hP6.kept (hk7.trans hk8)) (by omega)).mono ?_; rw [E2.out]; rintro e w9 ⟨rfl, hk9⟩; obtain ⟨d0, d1, _⟩ := keep2 c0 c1 hk9; obtain ⟨W10, hW10, hsz10, x0, hK10⟩ := newbox1 w9 w9.heap.size rfl (.int .i64 c) 3; have hk710 := (hk7.trans hk8).trans (hk9.trans hK10)) | (go_at_call 24; refine (rCalls_any _ _ _ _ ok (RefAt.of_in (hRf6.kept hk710) E1.out) 1 (fun _ => c) (one_at x0) (by omega)).mono ?_; rw [E3.out]; rintro e w11 ⟨rfl, hk11⟩; have hk711 := hk710.trans hk11; have hk811 := (hk8.trans (hk9.trans hK10)).trans hk11; obtain ⟨f0, f1, _⟩ := keep2 r0 r1 hk711) | (go_at_call 25; refine (rThere_any _ _ (min nS 4) A B (hP6.kept hk711) c (by omega)).mono ?_; rw [E4.out]; rintro e w12 ⟨rfl, rfl⟩) | (go_at_call 19; refine (lives_any _).mono ?_; rintro e w15 ⟨rfl, hk15⟩))
          go_ret
          exact ⟨rfl, hK06.trans (by repeat (first | assumption | exact Kept.refl _ | apply Kept.drew | apply Kept.drewN | apply Kept.alloc | refine Kept.trans ?_ (by assumption)))⟩
        | false =>
          have E4 := Lib.hid e4
          rw [e4] at hth
          have hno := Lib.hid hth
          obtain ⟨t, rfl⟩ : ∃ t : Nat, c = (t : Int) := ⟨c.toNat, by omega⟩
          have htn : t < (roadR (min nO 11) fO fL).n := by omega
          rw [Int.toNat_natCast] at hth
          have hne : ∀ i, i < min nS 4 → handsN A B i ≠ (t, 0) := fun i hi h => by
            rw [hasSp_iff.2 ⟨i, hi, h⟩] at hth
            cases hth
          have HSP := Lib.hid (fun W v (hP : PairsAt W v (min nS 4) A B) => (hands_sps hP p5).1)
          have hsp : ∀ i, i < min nS 4 → (roadR (min nO 11) fO fL).spot (handsN A B i) := fun i hi => (isSp_spot (p5 i hi)).1
          have RST := Lib.hid (fun W v hv (hT : RefAt W v (roadR (min nO 11) fO fL)) (hP : SpsAt W hv (min nS 4) (handsN A B)) => rStep_any W v hv _ ok hT (min nS 4) (handsN A B) hP t htn hk1 (by omega) hsp hne)
          have DV := Lib.hid (show ((t : Nat) : Int).toNat = t from Int.toNat_natCast t)
          obtain ⟨m, HM⟩ : ∃ m, Hid (m = cnt (mayB (roadR (min nO 11) fO fL) (handsN A B) t (min nS 4)) (min nS 4)) := ⟨_, rfl⟩
          unfold StepPost at RST
          rw [← HM.out] at RST
          clear e1 e2 e3 e4 hth hgood0 p1 hk3 hm12 p5 p6 hc0 hcn hsp hne
          go_enter Try.func4, Try.ntmps4
          go_wp2_with (first | (go_at_call 15; refine (FW.out _ (hO.kept hKw) (hL.kept hKw)).mono ?_; rintro e w4 ⟨fv, rfl, hRf, hkf⟩; obtain ⟨_, _, rfl, ⟨fa, fb, fo, fc, rfl, _, _⟩, ⟨ga, gb, go, gc, rfl, _, _⟩⟩ := id hRf) | (go_at_call 21; refine (SPO.out _ (hS.kept (hKw.trans hkf))).mono ?_; rintro e w5 ⟨sv, rfl, hO5, hk5⟩; have hP5 := PairsAt.of_prL hO5; obtain ⟨sa, sb, so, sc, rfl, _, _⟩ := id hP5; obtain ⟨W6, hW6, hsz6, r0, r1, hK6⟩ := newbox2 w5 w5.heap.size rfl (.slice fa (min nO 11) fc) (.slice ga (min nL 11) gc) 24; have hRf6 := hRf.kept (hk5.trans hK6); have hP6 := hP5.kept hK6; have hK06 := ((hKw.trans hkf).trans hk5).trans hK6) | (go_at_call 22; refine (Step_any _ _ _ (min nO 11) (min nL 11) fO fL hRf6 (by omega) (by omega) (min nS 4) A B hP6 (by omega) (t : Int)).mono ?_; intro e w7 hd; obtain ⟨hd1, hd2, hd3, hk7⟩ := hd; have hd1 := hd1 hgood.out hno.out; rw [DV.out, ← HM.out] at hd1; obtain ⟨lv, rfl, hL7⟩ := hd1; obtain ⟨la, lb, lo, lc, rfl, _, _⟩ := id hL7; obtain ⟨b0, b1, _⟩ := keep2 r0 r1 hk7) | (go_at_call 17; refine (rRoad_any _ _ (min nO 11) (min nL 11) fO fL (hRf6.kept hk7) (by omega) (by omega)).mono ?_; rw [E1.out]; rintro e w8 ⟨rfl, hk8⟩; obtain ⟨c0, c1, _⟩ := keep2 b0 b1 hk8) | (go_at_call 23; refine (rHands_any _ _ _ _ ok (RefAt.of_in (hRf6.kept (hk7.trans hk8)) E1.out) (min nS 4) A B (hP6.kept (hk7.trans hk8)) (by omega)).mono ?_; rw [E2.out]; rintro e w9 ⟨rfl, hk9⟩; obtain ⟨d0, d1, _⟩ := keep2 c0 c1 hk9; obtain ⟨W10, hW10, hsz10, x0, hK10⟩ := newbox1 w9 w9.heap.size rfl (.int .i64 (t : Int)) 3; have hk710 := (hk7.trans hk8).trans (hk9.trans hK10)) | (go_at_call 24; refine (rCalls_any _ _ _ _ ok (RefAt.of_in (hRf6.kept hk710) E1.out) 1 (fun _ => (t : Int)) (one_at x0) (by omega)).mono ?_; rw [E3.out]; rintro e w11 ⟨rfl, hk11⟩; have hk711 := hk710.trans hk11; have hk811 := (hk8.trans (hk9.trans hK10)).trans hk11; obtain ⟨f0, f1, _⟩ := keep2 r0 r1 hk711) | (go_at_call 25; refine (rThere_any _ _ (min nS 4) A B (hP6.kept hk711) (t : Int) (by omega)).mono ?_; rw [E4.out]; rintro e w12 ⟨rfl, rfl⟩) | (go_at_call 26; refine (RST.out _ _ _ (RefAt.of_in (hRf6.kept hk711) E1.out) (HSP.out _ _ (hP6.kept hk711))).mono ?_; rintro e w13 ⟨rv, rB, rfl, _, hO13, hk13⟩; have hS13 := SpsAt.of_own hO13; obtain ⟨ra, rb, ro, rc, rfl, _, _⟩ := id hS13) | (go_at_call 27; refine (SameSpots_true _ _ _ (min nS 4) _ _ (hL7.kept (hk811.trans hk13)) hS13 (by omega) (fun i _ => rfl)).mono ?_; rintro e w14 ⟨rfl, hk14⟩) | (go_at_call 19; refine (lives_any _).mono ?_; rintro e w15 ⟨rfl, hk15⟩))
          go_ret
          exact ⟨rfl, hK06.trans (by repeat (first | assumption | exact Kept.refl _ | apply Kept.drew | apply Kept.drewN | apply Kept.alloc | refine Kept.trans ?_ (by assumption)))⟩
end Go.Proofs.Ytlgpclnmonpkjaa
