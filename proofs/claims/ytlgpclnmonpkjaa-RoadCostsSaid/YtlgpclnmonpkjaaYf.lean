/-
  The law RoadCosts.
-/
import Derived.Test.YtlgpclnmonpkjaaCb
namespace Go.Proofs.Ytlgpclnmonpkjaa
open Go.RowKit Go.Deep

theorem atPl_zero {k : Nat} {B : Nat → Int} (h : ∀ i, i < k → 0 ≤ B i) : atPl k B = allN (fun i => decide (B i = 0)) k := by
  unfold atPl
  cases e : allN (fun i => decide (B i = 0)) k with
  | true =>
    refine allN_true.2 fun i hi => ?_
    have := allN_true.1 e i hi
    simp at this
    simp [this]
  | false =>
    cases e2 : allN (fun i => decide (B i ≤ 0)) k with
    | false => rfl
    | true =>
      have : allN (fun i => decide (B i = 0)) k = true := allN_true.2 fun i hi => by
        have h1 := allN_true.1 e2 i hi
        have h2 := h i hi
        simp at h1
        exact decide_eq_true (by omega)
      rw [this] at e
      cases e
set_option maxRecDepth 100000 in
set_option maxHeartbeats 4000000 in
theorem RoadCosts_any (w : World) (aO : Option Addr) (nO cO : Nat) (fO : Nat → Int) (aL : Option Addr) (nL cL : Nat) (fL : Nat → Int) (aS : Option Addr) (nS cS : Nat) (A B : Nat → Int) (aC : Option Addr) (nC cC : Nat) (C : Nat → Int) (hO : IntsAt w (.slice aO nO cO) nO fO) (hO1 : nO ≤ cO) (hO2 : aO = none → cO = 0) (hO3 : cO ≤ maxLen) (hL : IntsAt w (.slice aL nL cL) nL fL) (hL1 : nL ≤ cL) (hL2 : aL = none → cL = 0) (hL3 : cL ≤ maxLen)
    (hS : PairsAt w (.slice aS nS cS) nS A B) (hS1 : nS ≤ cS) (hS2 : aS = none → cS = 0) (hS3 : cS ≤ maxLen) (hC : IntsAt w (.slice aC nC cC) nC C) (hC1 : nC ≤ cC) (hC2 : aC = none → cC = 0) (hC3 : cC ≤ maxLen) (aY : Option Addr) (nY cY : Nat) (G : Nat → Int) (hY : IntsAt w (.slice aY nY cY) nY G) (hY1 : nY ≤ cY) (hY2 : aY = none → cY = 0) (hY3 : cY ≤ maxLen) :
    Calls Try.prog 7 #[.agg #[.slice aO nO cO, .slice aL nL cL, .slice aS nS cS, .slice aC nC cC], .slice aY nY cY] w fun e w' => e = .returned (.bool true) ∧ Kept w w' := by
  have CP := Lib.hid (fun W hO hL hS hC => copied_any W aO aL aS aC nO cO nL cL nS cS nC cC fO fL A B C hO hO1 hO2 hO3 hL hL1 hL2 hL3 hS hS1 hS2 hS3 hC hC1 hC2 hC3)
  have CT := Lib.hid (fun W (h : IntsAt W (.slice aY nY cY) nY G) => cut_any W aY nY cY 13 G h hY1 hY2 hY3 (by omega))
  unfold CutPost at CT
  obtain ⟨n0, HN0⟩ : ∃ n0, w.heap.size = n0 := ⟨_, rfl⟩
  obtain ⟨W1, hW1, hsz, q0, q1, q2, q3, hKw⟩ := newbox4 w n0 HN0 (.slice aO nO cO) (.slice aL nL cL) (.slice aS nS cS) (.slice aC nC cC) 48
  clear hO1 hO2 hO3 hL1 hL2 hL3 hS1 hS2 hS3 hC1 hC2 hC3 hY1 hY2 hY3
  obtain ⟨b, hb⟩ : ∃ b, withOk (min nO 11) (min nL 11) fO fL (min nS 4) A B (min nC 13) C = b := ⟨_, rfl⟩
  have HW := Lib.hid hb
  cases b with
  | false =>
    have hbad : Hid (plOk (min nO 11) (min nL 11) fO fL (min nS 4) A B (min nC 13) C = false) := by show _ = _; unfold plOk; rw [hb]; rfl
    clear hb
    go_enter Try.func7, Try.ntmps7
    go_wp2_with (first | (go_at_call 28; refine (CP.out _ (hO.kept hKw) (hL.kept hKw) (hS.kept hKw) (CellsAt.kept hC hKw)).mono ?_; rw [HW.out]; rintro e w4 ⟨rv, hv, cv, rfl, hRf, hPf, hCf, hk4⟩; obtain ⟨_, _, rfl, ⟨fa, fb, fo, fc, rfl, _, _⟩, ⟨ga, gb, go, gc, rfl, _, _⟩⟩ := id hRf; obtain ⟨sa, sb, so, sc, rfl, _, _⟩ := id hPf; obtain ⟨ca, cb, co, cc, rfl, _, _⟩ := id hCf; obtain ⟨W6, hW6, hsz6, r0, r1, hK6⟩ := newbox2 w4 w4.heap.size rfl (.slice fa (min nO 11) fc) (.slice ga (min nL 11) gc) 24; have hR6 := hRf.kept hK6; have hP6 := hPf.kept hK6; have hC6 : IntsAt W6 _ _ _ := CellsAt.kept hCf hK6; have hK06 := (hKw.trans hk4).trans hK6) | (go_at_call 40; refine (CT.out _ (CellsAt.kept hY hK06)).mono ?_; rintro e w7 ⟨yv, rfl, hO7, hk7⟩; have hY7 := IntsAt.of_intsL hO7; obtain ⟨ya, yc, rfl⟩ := own_shape hO7; obtain ⟨b0, b1, _⟩ := keep2 r0 r1 hk7) | (go_at_call 41; refine (Cost_any _ _ _ _ _ (min nO 11) (min nL 11) fO fL (hR6.kept hk7) (by omega) (by omega) (min nS 4) A B (hP6.kept hk7) (by omega) (min nC 13) C (CellsAt.kept hC6 hk7) (by omega) (min nY 13) G hY7 (by omega)).mono ?_; intro e w8 hd; obtain ⟨hd1, hd2, hd3, hk8⟩ := hd; obtain rfl := hd1 hbad.out; obtain ⟨c0, c1, _⟩ := keep2 b0 b1 hk8) | (go_at_call 19; refine (lives_any _).mono ?_; rintro e w16 ⟨rfl, hk16⟩))
    go_ret
    exact ⟨rfl, hK06.trans (by repeat (first | assumption | exact Kept.refl _ | apply Kept.drew | apply Kept.drewN | apply Kept.alloc | refine Kept.trans ?_ (by assumption)))⟩
  | true =>
    obtain ⟨p1, hk1, hk3, hm12, p5, p6⟩ := withOk_parts hb
    have hz := atPl_zero (k := min nS 4) (B := B) (fun i hi => (isSp_spot (p5 i hi)).2.2.2)
    have hpl : plOk (min nO 11) (min nL 11) fO fL (min nS 4) A B (min nC 13) C = allN (fun i => decide (B i = 0)) (min nS 4) := by unfold plOk; rw [hb, hz]; rfl
    have HR := Lib.hid p1
    have ok := roadR_ok p1
    obtain ⟨t, ht⟩ : ∃ t, allN (fun i => decide (B i = 0)) (min nS 4) = t := ⟨_, rfl⟩
    have HAT := Lib.hid ht
    rw [ht] at hpl
    have HPL := Lib.hid hpl
    cases t with
    | false =>
      clear hb ht hpl hz p1 p5 p6
      go_enter Try.func7, Try.ntmps7
      go_wp2_with (first | (go_at_call 28; refine (CP.out _ (hO.kept hKw) (hL.kept hKw) (hS.kept hKw) (CellsAt.kept hC hKw)).mono ?_; rw [HW.out]; rintro e w4 ⟨rv, hv, cv, rfl, hRf, hPf, hCf, hk4⟩; obtain ⟨_, _, rfl, ⟨fa, fb, fo, fc, rfl, _, _⟩, ⟨ga, gb, go, gc, rfl, _, _⟩⟩ := id hRf; obtain ⟨sa, sb, so, sc, rfl, _, _⟩ := id hPf; obtain ⟨ca, cb, co, cc, rfl, _, _⟩ := id hCf; obtain ⟨W6, hW6, hsz6, r0, r1, hK6⟩ := newbox2 w4 w4.heap.size rfl (.slice fa (min nO 11) fc) (.slice ga (min nL 11) gc) 24; have hR6 := hRf.kept hK6; have hP6 := hPf.kept hK6; have hC6 : IntsAt W6 _ _ _ := CellsAt.kept hCf hK6; have hK06 := (hKw.trans hk4).trans hK6) | (go_at_call 40; refine (CT.out _ (CellsAt.kept hY hK06)).mono ?_; rintro e w7 ⟨yv, rfl, hO7, hk7⟩; have hY7 := IntsAt.of_intsL hO7; obtain ⟨ya, yc, rfl⟩ := own_shape hO7; obtain ⟨b0, b1, _⟩ := keep2 r0 r1 hk7) | (go_at_call 41; refine (Cost_any _ _ _ _ _ (min nO 11) (min nL 11) fO fL (hR6.kept hk7) (by omega) (by omega) (min nS 4) A B (hP6.kept hk7) (by omega) (min nC 13) C (CellsAt.kept hC6 hk7) (by omega) (min nY 13) G hY7 (by omega)).mono ?_; intro e w8 hd; obtain ⟨hd1, hd2, hd3, hk8⟩ := hd; obtain rfl := hd1 HPL.out; obtain ⟨c0, c1, _⟩ := keep2 b0 b1 hk8) | (go_at_call 36; refine (rAtPlaces_any _ _ (min nS 4) A B (hP6.kept (hk7.trans hk8)) (by omega)).mono ?_; rw [HAT.out]; rintro e w9 ⟨rfl, rfl⟩) | (go_at_call 19; refine (lives_any _).mono ?_; rintro e w16 ⟨rfl, hk16⟩))
      go_ret
      exact ⟨rfl, hK06.trans (by repeat (first | assumption | exact Kept.refl _ | apply Kept.drew | apply Kept.drewN | apply Kept.alloc | refine Kept.trans ?_ (by assumption)))⟩
    | true =>
      obtain ⟨u, hu⟩ : ∃ u, fitB (min nS 4) G (min nY 13) (min nC 13) = u := ⟨_, rfl⟩
      have HFI := Lib.hid hu
      cases u with
      | false =>
        clear hb ht hpl hz p1 p5 p6 hu
        go_enter Try.func7, Try.ntmps7
        go_wp2_with (first | (go_at_call 28; refine (CP.out _ (hO.kept hKw) (hL.kept hKw) (hS.kept hKw) (CellsAt.kept hC hKw)).mono ?_; rw [HW.out]; rintro e w4 ⟨rv, hv, cv, rfl, hRf, hPf, hCf, hk4⟩; obtain ⟨_, _, rfl, ⟨fa, fb, fo, fc, rfl, _, _⟩, ⟨ga, gb, go, gc, rfl, _, _⟩⟩ := id hRf; obtain ⟨sa, sb, so, sc, rfl, _, _⟩ := id hPf; obtain ⟨ca, cb, co, cc, rfl, _, _⟩ := id hCf; obtain ⟨W6, hW6, hsz6, r0, r1, hK6⟩ := newbox2 w4 w4.heap.size rfl (.slice fa (min nO 11) fc) (.slice ga (min nL 11) gc) 24; have hR6 := hRf.kept hK6; have hP6 := hPf.kept hK6; have hC6 : IntsAt W6 _ _ _ := CellsAt.kept hCf hK6; have hK06 := (hKw.trans hk4).trans hK6) | (go_at_call 40; refine (CT.out _ (CellsAt.kept hY hK06)).mono ?_; rintro e w7 ⟨yv, rfl, hO7, hk7⟩; have hY7 := IntsAt.of_intsL hO7; obtain ⟨ya, yc, rfl⟩ := own_shape hO7; obtain ⟨b0, b1, _⟩ := keep2 r0 r1 hk7) | (go_at_call 41; refine (Cost_any _ _ _ _ _ (min nO 11) (min nL 11) fO fL (hR6.kept hk7) (by omega) (by omega) (min nS 4) A B (hP6.kept hk7) (by omega) (min nC 13) C (CellsAt.kept hC6 hk7) (by omega) (min nY 13) G hY7 (by omega)).mono ?_; intro e w8 hd; obtain ⟨hd1, hd2, hd3, hk8⟩ := hd; obtain rfl := hd2 HPL.out HFI.out; obtain ⟨c0, c1, _⟩ := keep2 b0 b1 hk8) | (go_at_call 36; refine (rAtPlaces_any _ _ (min nS 4) A B (hP6.kept (hk7.trans hk8)) (by omega)).mono ?_; rw [HAT.out]; rintro e w9 ⟨rfl, rfl⟩) | (go_at_call 42; refine (rPlanned_any _ _ _ _ (min nS 4) A B (hP6.kept (hk7.trans hk8)) (min nC 13) C (CellsAt.kept hC6 (hk7.trans hk8)) (min nY 13) G (CellsAt.kept hY7 hk8) (by omega) (by omega)).mono ?_; rw [HFI.out]; rintro e w10 ⟨rfl, hk10⟩; obtain ⟨d0, d1, _⟩ := keep2 c0 c1 hk10) | (go_at_call 19; refine (lives_any _).mono ?_; rintro e w16 ⟨rfl, hk16⟩))
        go_ret
        exact ⟨rfl, hK06.trans (by repeat (first | assumption | exact Kept.refl _ | apply Kept.drew | apply Kept.drewN | apply Kept.alloc | refine Kept.trans ?_ (by assumption)))⟩
      | true =>
        obtain ⟨hfb, hnm⟩ := fitB_iff.1 hu
        have hbs := begS_place hb
        obtain ⟨res, HRES⟩ : ∃ res, Hid (res = cstP (roadR (min nO 11) fO fL) (callsN C) (callsN G) (begS (min nS 4) A) (min nC 13)) := ⟨_, rfl⟩
        have RC := Lib.hid (fun W v hv cv fv (hW : RefAt W v (roadR (min nO 11) fO fL)) (hh : PairsAt W hv (min nS 4) A B) (hc : IntsAt W cv (min nC 13) C) (hf : IntsAt W fv (min nY 13) G) => rCost_any W v hv cv fv (roadR (min nO 11) fO fL) ok hW (min nS 4) (min nC 13) (begS (min nS 4) A) (callsN C) (callsN G) (by
          obtain ⟨a, b, o, cap, e, h3, h4⟩ := hh
          refine ⟨a, b, o, cap, e, h3, fun i hi => ?_⟩
          obtain ⟨g1, g2⟩ := h4 i hi
          have hB := allN_true.1 ht i hi
          simp at hB
          have hA := (isSp_spot (p5 i hi)).2.1
          refine ⟨g1.trans ?_, g2.trans ?_⟩
          · show some (Value.int .i64 (A i)) = some (Value.int .i64 ((begS (min nS 4) A i : Nat) : Int))
            unfold begS
            rw [if_pos hi, show (((A i).toNat : Nat) : Int) = A i by omega]
          · show some (Value.int .i64 (B i)) = some (Value.int .i64 ((0 : Nat) : Int))
            rw [hB]; rfl) (calls_ints hc p6).1 (by
          rw [← hnm]
          exact CellsAt.congr hf (fun i hi => by have := (hfb i hi).1; show Value.int .i64 (G i) = Value.int .i64 (((G i).toNat : Nat) : Int); rw [show (((G i).toNat : Nat) : Int) = G i by omega])) hk1 hk3 (by omega) hbs (calls_ints hc p6).2 (fun i hi => by have := hfb i (by omega); unfold callsN; omega))
        clear hb ht hpl hz p1 p5 p6 hu hfb hnm hbs
        go_enter Try.func7, Try.ntmps7
        go_wp2_with (first | (go_at_call 28; refine (CP.out _ (hO.kept hKw) (hL.kept hKw) (hS.kept hKw) (CellsAt.kept hC hKw)).mono ?_; rw [HW.out]; rintro e w4 ⟨rv, hv, cv, rfl, hRf, hPf, hCf, hk4⟩; obtain ⟨_, _, rfl, ⟨fa, fb, fo, fc, rfl, _, _⟩, ⟨ga, gb, go, gc, rfl, _, _⟩⟩ := id hRf; obtain ⟨sa, sb, so, sc, rfl, _, _⟩ := id hPf; obtain ⟨ca, cb, co, cc, rfl, _, _⟩ := id hCf; obtain ⟨W6, hW6, hsz6, r0, r1, hK6⟩ := newbox2 w4 w4.heap.size rfl (.slice fa (min nO 11) fc) (.slice ga (min nL 11) gc) 24; have hR6 := hRf.kept hK6; have hP6 := hPf.kept hK6; have hC6 : IntsAt W6 _ _ _ := CellsAt.kept hCf hK6; have hK06 := (hKw.trans hk4).trans hK6) | (go_at_call 40; refine (CT.out _ (CellsAt.kept hY hK06)).mono ?_; rintro e w7 ⟨yv, rfl, hO7, hk7⟩; have hY7 := IntsAt.of_intsL hO7; obtain ⟨ya, yc, rfl⟩ := own_shape hO7; obtain ⟨b0, b1, _⟩ := keep2 r0 r1 hk7) | (go_at_call 41; refine (Cost_any _ _ _ _ _ (min nO 11) (min nL 11) fO fL (hR6.kept hk7) (by omega) (by omega) (min nS 4) A B (hP6.kept hk7) (by omega) (min nC 13) C (CellsAt.kept hC6 hk7) (by omega) (min nY 13) G hY7 (by omega)).mono ?_; intro e w8 hd; obtain ⟨hd1, hd2, hd3, hk8⟩ := hd; obtain rfl := hd3 HPL.out HFI.out; rw [← HRES.out]; obtain ⟨c0, c1, _⟩ := keep2 b0 b1 hk8) | (go_at_call 36; refine (rAtPlaces_any _ _ (min nS 4) A B (hP6.kept (hk7.trans hk8)) (by omega)).mono ?_; rw [HAT.out]; rintro e w9 ⟨rfl, rfl⟩) | (go_at_call 42; refine (rPlanned_any _ _ _ _ (min nS 4) A B (hP6.kept (hk7.trans hk8)) (min nC 13) C (CellsAt.kept hC6 (hk7.trans hk8)) (min nY 13) G (CellsAt.kept hY7 hk8) (by omega) (by omega)).mono ?_; rw [HFI.out]; rintro e w10 ⟨rfl, hk10⟩; obtain ⟨d0, d1, _⟩ := keep2 c0 c1 hk10) | (go_at_call 38; refine (RC.out _ _ _ _ _ (RefAt.of_in (hR6.kept ((hk7.trans hk8).trans hk10)) HR.out) (hP6.kept ((hk7.trans hk8).trans hk10)) (CellsAt.kept hC6 ((hk7.trans hk8).trans hk10)) (CellsAt.kept hY7 (hk8.trans hk10))).mono ?_; rw [← HRES.out]; rintro e w11 ⟨rfl, hk11⟩) | (go_at_call 19; refine (lives_any _).mono ?_; rintro e w16 ⟨rfl, hk16⟩))
        go_ret
        exact ⟨rfl, hK06.trans (by repeat (first | assumption | exact Kept.refl _ | apply Kept.drew | apply Kept.drewN | apply Kept.alloc | refine Kept.trans ?_ (by assumption)))⟩
end Go.Proofs.Ytlgpclnmonpkjaa
