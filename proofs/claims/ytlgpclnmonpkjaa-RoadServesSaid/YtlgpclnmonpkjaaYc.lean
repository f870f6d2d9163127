/-
  The law RoadServes.
-/
import Derived.Test.YtlgpclnmonpkjaaWp
import Derived.Test.YtlgpclnmonpkjaaWo
namespace Go.Proofs.Ytlgpclnmonpkjaa
open Go.RowKit Go.Deep

set_option maxRecDepth 100000 in
set_option maxHeartbeats 4000000 in
theorem RoadServes_any (w : World) (aO : Option Addr) (nO cO : Nat) (fO : Nat → Int) (aL : Option Addr) (nL cL : Nat) (fL : Nat → Int) (aS : Option Addr) (nS cS : Nat) (A B : Nat → Int) (aC : Option Addr) (nC cC : Nat) (C : Nat → Int) (hO : IntsAt w (.slice aO nO cO) nO fO) (hO1 : nO ≤ cO) (hO2 : aO = none → cO = 0) (hO3 : cO ≤ maxLen) (hL : IntsAt w (.slice aL nL cL) nL fL) (hL1 : nL ≤ cL) (hL2 : aL = none → cL = 0) (hL3 : cL ≤ maxLen)
    (hS : PairsAt w (.slice aS nS cS) nS A B) (hS1 : nS ≤ cS) (hS2 : aS = none → cS = 0) (hS3 : cS ≤ maxLen) (hC : IntsAt w (.slice aC nC cC) nC C) (hC1 : nC ≤ cC) (hC2 : aC = none → cC = 0) (hC3 : cC ≤ maxLen) :
    Calls Try.prog 5 #[.agg #[.slice aO nO cO, .slice aL nL cL, .slice aS nS cS, .slice aC nC cC]] w fun e w' => e = .returned (.bool true) ∧ Kept w w' := by
  have CP := Lib.hid (fun W hO hL hS hC => copied_any W aO aL aS aC nO cO nL cL nS cS nC cC fO fL A B C hO hO1 hO2 hO3 hL hL1 hL2 hL3 hS hS1 hS2 hS3 hC hC1 hC2 hC3)
  obtain ⟨n0, HN0⟩ : ∃ n0, w.heap.size = n0 := ⟨_, rfl⟩
  obtain ⟨W1, hW1, hsz, q0, q1, q2, q3, hKw⟩ := newbox4 w n0 HN0 (.slice aO nO cO) (.slice aL nL cL) (.slice aS nS cS) (.slice aC nC cC) 48
  clear hO1 hO2 hO3 hL1 hL2 hL3 hS1 hS2 hS3 hC1 hC2 hC3
  obtain ⟨b, hb⟩ : ∃ b, withOk (min nO 11) (min nL 11) fO fL (min nS 4) A B (min nC 13) C = b := ⟨_, rfl⟩
  have HW := Lib.hid hb
  cases b with
  | false =>
    clear hb
    go_enter Try.func5, Try.ntmps5
    go_wp2_with (first | (go_at_call 28; refine (CP.out _ (hO.kept hKw) (hL.kept hKw) (hS.kept hKw) (CellsAt.kept hC hKw)).mono ?_; rw [HW.out]; rintro e w4 ⟨rv, hv, cv, rfl, hRf, hPf, hCf, hk4⟩; obtain ⟨_, _, rfl, ⟨fa, fb, fo, fc, rfl, _, _⟩, ⟨ga, gb, go, gc, rfl, _, _⟩⟩ := id hRf; obtain ⟨sa, sb, so, sc, rfl, _, _⟩ := id hPf; obtain ⟨ca, cb, co, cc, rfl, _, _⟩ := id hCf; obtain ⟨W6, hW6, hsz6, r0, r1, hK6⟩ := newbox2 w4 w4.heap.size rfl (.slice fa (min nO 11) fc) (.slice ga (min nL 11) gc) 24; have hR6 := hRf.kept hK6; have hP6 := hPf.kept hK6; have hC6 : IntsAt W6 _ _ _ := CellsAt.kept hCf hK6; have hK06 := (hKw.trans hk4).trans hK6) | (go_at_call 29; refine (Serve_any _ _ _ _ (min nO 11) (min nL 11) fO fL hR6 (by omega) (by omega) (min nS 4) A B hP6 (by omega) (min nC 13) C hC6 (by omega)).mono ?_; intro e w7 hd; obtain ⟨hd1, hd2, hk7⟩ := hd; obtain rfl := hd2 HW.out; obtain ⟨b0, b1, _⟩ := keep2 r0 r1 hk7) | (go_at_call 30; refine (Costs_any _ _ _ _ (min nO 11) (min nL 11) fO fL (hR6.kept hk7) (by omega) (by omega) (min nS 4) A B (hP6.kept hk7) (by omega) (min nC 13) C (CellsAt.kept hC6 hk7) (by omega)).mono ?_; intro e w8 hd; obtain ⟨hd1, hd2, hk8⟩ := hd; obtain rfl := hd2 HW.out; obtain ⟨c0, c1, _⟩ := keep2 b0 b1 hk8) | (go_at_call 19; refine (lives_any _).mono ?_; rintro e w16 ⟨rfl, hk16⟩))
    go_ret
    exact ⟨rfl, hK06.trans (by repeat (first | assumption | exact Kept.refl _ | apply Kept.drew | apply Kept.drewN | apply Kept.alloc | refine Kept.trans ?_ (by assumption)))⟩
  | true =>
    obtain ⟨p1, hk1, hk3, hm12, p5, p6⟩ := withOk_parts hb
    have HR := Lib.hid p1
    have ok := roadR_ok p1
    have RC := Lib.hid (fun W v hv cv (hW : RefAt W v (roadR (min nO 11) fO fL)) (hh : PairsAt W hv (min nS 4) A B) (hc : IntsAt W cv (min nC 13) C) => rCosts_any W v hv cv (roadR (min nO 11) fO fL) ok hW (min nS 4) (min nC 13) (handsN A B) (callsN C) (hands_sps hh p5).1 (calls_ints hc p6).1 hk1 (by omega) (by omega) (hands_sps hh p5).2 (calls_ints hc p6).2)
    have hle : ∀ i, i < min nC 13 → servC (roadR (min nO 11) fO fL) (min nS 4) (callsN C) (handsN A B) i ≤ 360 * (min nS 4) := fun i hi => servC_le ok hk1 (m := min nC 13) (fun i hi => by have := p6 i hi; unfold callsN; omega) (fun i hi => (isSp_spot (p5 i hi)).1) i hi
    obtain ⟨f, HF⟩ : ∃ f, Hid (f = servC (roadR (min nO 11) fO fL) (min nS 4) (callsN C) (handsN A B)) := ⟨_, rfl⟩
    obtain ⟨G, HG⟩ : ∃ G, Hid (G = servH (roadR (min nO 11) fO fL) (min nS 4) (callsN C) (handsN A B) (min nC 13)) := ⟨_, rfl⟩
    have SV := Lib.hid (fun W v hv cv hR hP hC => Serve_any W v hv cv (min nO 11) (min nL 11) fO fL hR (by omega) (by omega) (min nS 4) A B hP (by omega) (min nC 13) C hC (by omega))
    unfold RCostsPost at RC
    rw [← HF.out, ← HG.out] at RC
    rw [← HF.out] at hle
    have HLE := Lib.hid hle
    obtain ⟨k, HKk⟩ : ∃ k, Hid (k = min nS 4) := ⟨_, rfl⟩
    clear hb p1 p5 p6 hle
    go_enter Try.func5, Try.ntmps5
    go_wp2_with (first | (go_at_call 28; refine (CP.out _ (hO.kept hKw) (hL.kept hKw) (hS.kept hKw) (CellsAt.kept hC hKw)).mono ?_; rw [HW.out]; rintro e w4 ⟨rv, hv, cv, rfl, hRf, hPf, hCf, hk4⟩; obtain ⟨_, _, rfl, ⟨fa, fb, fo, fc, rfl, _, _⟩, ⟨ga, gb, go, gc, rfl, _, _⟩⟩ := id hRf; obtain ⟨sa, sb, so, sc, rfl, _, _⟩ := id hPf; obtain ⟨ca, cb, co, cc, rfl, _, _⟩ := id hCf; obtain ⟨W6, hW6, hsz6, r0, r1, hK6⟩ := newbox2 w4 w4.heap.size rfl (.slice fa (min nO 11) fc) (.slice ga (min nL 11) gc) 24; have hR6 := hRf.kept hK6; have hP6 := hPf.kept hK6; have hC6 : IntsAt W6 _ _ _ := CellsAt.kept hCf hK6; have hK06 := (hKw.trans hk4).trans hK6) | (go_at_call 29; refine (Serve_any _ _ _ _ (min nO 11) (min nL 11) fO fL hR6 (by omega) (by omega) (min nS 4) A B hP6 (by omega) (min nC 13) C hC6 (by omega)).mono ?_; intro e w7 hd; obtain ⟨hd1, hd2, hk7⟩ := hd; obtain ⟨v7, rfl, hS7⟩ := hd1 HW.out; rw [← HG.out] at hS7; rw [← HF.out]; obtain ⟨ta, tb, to_, tc, rfl, _, _⟩ := id hS7; obtain ⟨b0, b1, _⟩ := keep2 r0 r1 hk7) | (go_at_call 30; refine (Costs_any _ _ _ _ (min nO 11) (min nL 11) fO fL (hR6.kept hk7) (by omega) (by omega) (min nS 4) A B (hP6.kept hk7) (by omega) (min nC 13) C (CellsAt.kept hC6 hk7) (by omega)).mono ?_; intro e w8 hd; obtain ⟨hd1, hd2, hk8⟩ := hd; obtain ⟨v8, rfl, hI8⟩ := hd1 HW.out; rw [← HF.out] at hI8; obtain ⟨ua, ub, uo, uc, rfl, _, _⟩ := id hI8; obtain ⟨c0, c1, _⟩ := keep2 b0 b1 hk8) | (go_at_call 31; refine (RC.out _ _ _ _ (RefAt.of_in (hR6.kept (hk7.trans hk8)) HR.out) (hP6.kept (hk7.trans hk8)) (CellsAt.kept hC6 (hk7.trans hk8))).mono ?_; rintro e w9 ⟨v9, cv9, rfl, hS9, hI9, hk9⟩; obtain ⟨la, lb, lo, lc, rfl, _, _⟩ := id hS9; obtain ⟨ma, mb, mo, mc, rfl, hma, hmc⟩ := id hI9) | fail)
    clear hW1 hsz hW6 hsz6 c0 c1 b0 b1 r0 r1 hd1 hd2
    have hn9 : min nC 13 ≤ 12 := hm12
    have hmc2 := Lib.hid hmc
    clear hmc
    go_loopg [14, 15] (min nC 13) (fun g s14 s15 wr => ∃ i : Nat, i ≤ min nC 13 ∧ g = min nC 13 - i ∧ s15 = .int .i64 i ∧ s14 = .int .i64 ((sumN f i : Nat) : Int) ∧ Kept w9 wr)
    case atStart => exact ⟨0, Nat.zero_le _, rfl, rfl, rfl, Kept.refl _⟩
    case round =>
      obtain ⟨i, hi, rfl, rfl, rfl, hKi⟩ := hrel
      by_cases hlt : i < min nC 13
      · obtain rfl := hma (by omega)
        have h1 := hKi.cellSome (hmc2.out i hlt)
        have n1 : (i : Int) < ((min nC 13 : Nat) : Int) := by omega
        have n2 : (0 : Int) ≤ (i : Int) := by omega
        have hs1 := sumN_le f (360 * (min nS 4)) (i + 1) (fun j hj => HLE.out j (by omega))
        rw [sumN_succ] at hs1
        have hb : 360 * (min nS 4) * (i + 1) ≤ 360 * 3 * 12 := Nat.mul_le_mul (by omega) (by omega)
        have s1 : IntKind.i64.wrap (((sumN f i : Nat) : Int) + ((f i : Nat) : Int)) = ((sumN f i : Nat) : Int) + ((f i : Nat) : Int) := IntWalk.i64_in _ (by omega)
        go_wp2_with fail
        go_roundg (min nC 13 - (i + 1))
        case measure => omega
        case rel => exact ⟨i + 1, by omega, rfl, by go_num, by rw [sumN_succ, Int.natCast_add], hKi⟩
      · obtain rfl : i = min nC 13 := by omega
        obtain ⟨S, HSS⟩ : ∃ S, Hid (S = sumN f (min nC 13)) := ⟨_, rfl⟩
        rw [← HSS.out]
        have n5 : ((S : Int) == (S : Int)) = true := by simp
        go_wp2_with (first | (go_at_call 27; refine (SameSpots_true _ _ _ (min nS 4) _ _ (hS7.kept ((hk8.trans hk9).trans hKi)) (hS9.kept hKi) (by omega) (fun i _ => rfl)).mono ?_; rintro e w14 ⟨rfl, hk14⟩) | (go_at_call 32; refine (same_any _ _ _ (min nC 13) (min nC 13) _ _ (CellsAt.kept hI8 ((hk9.trans hKi).trans hk14)) (CellsAt.kept hI9 (hKi.trans hk14)) (by omega) (by omega)).mono ?_; rw [same_refl _ _ _ (fun i _ => rfl)]; rintro e w15 ⟨rfl, hq15⟩; have hk15 := hq15.kept) | (go_at_call 19; refine (lives_any _).mono ?_; rintro e w16 ⟨rfl, hk16⟩))
        go_ret
        exact ⟨rfl, hK06.trans (by repeat (first | assumption | exact Kept.refl _ | apply Kept.drew | apply Kept.drewN | apply Kept.alloc | refine Kept.trans ?_ (by assumption)))⟩
end Go.Proofs.Ytlgpclnmonpkjaa
