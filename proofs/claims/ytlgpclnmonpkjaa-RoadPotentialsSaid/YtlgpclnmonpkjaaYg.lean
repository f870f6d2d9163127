/-
  The law RoadPotentials.
-/
import Derived.Test.YtlgpclnmonpkjaaDe
import Derived.Test.YtlgpclnmonpkjaaWc
import Derived.Test.YtlgpclnmonpkjaaWf
import Derived.Test.YtlgpclnmonpkjaaWh
import Derived.Test.YtlgpclnmonpkjaaWk
import Derived.Test.YtlgpclnmonpkjaaVd
namespace Go.Proofs.Ytlgpclnmonpkjaa
open Go.RowKit Go.Deep

set_option maxRecDepth 100000 in
set_option maxHeartbeats 8000000 in
theorem RoadPotentials_any (w : World) (aO aL : Option Addr) (nO cO nL cL : Nat) (fO fL : Nat → Int) (hO : IntsAt w (.slice aO nO cO) nO fO) (hO1 : nO ≤ cO) (hO2 : aO = none → cO = 0) (hO3 : cO ≤ maxLen) (hL : IntsAt w (.slice aL nL cL) nL fL) (hL1 : nL ≤ cL) (hL2 : aL = none → cL = 0) (hL3 : cL ≤ maxLen)
    (aS : Option Addr) (nS cS : Nat) (A B : Nat → Int) (hS : PairsAt w (.slice aS nS cS) nS A B) (hS1 : nS ≤ cS) (hS2 : aS = none → cS = 0) (hS3 : cS ≤ maxLen)
    (aT : Option Addr) (nT cT : Nat) (C D : Nat → Int) (hT : PairsAt w (.slice aT nT cT) nT C D) (hT1 : nT ≤ cT) (hT2 : aT = none → cT = 0) (hT3 : cT ≤ maxLen) :
    Calls Try.prog 8 #[.agg #[.slice aO nO cO, .slice aL nL cL], .slice aS nS cS, .slice aT nT cT] w fun e w' => e = .returned (.bool true) ∧ Kept w w' := by
  have FW := Lib.hid (fun W hO hL => few_any W aO aL nO cO nL cL fO fL hO hO1 hO2 hO3 hL hL1 hL2 hL3)
  have SPO := Lib.hid (fun W hS => spots_any W aS nS cS A B hS hS1 hS2 hS3)
  have SPT := Lib.hid (fun W hS => spots_any W aT nT cT C D hS hT1 hT2 hT3)
  obtain ⟨n0, HN0⟩ : ∃ n0, w.heap.size = n0 := ⟨_, rfl⟩
  obtain ⟨W1, hW1, hsz, q0, q1, hKw⟩ := newbox2 w n0 HN0 (.slice aO nO cO) (.slice aL nL cL) 24
  have tok1 := Lib.hid True.intro
  have tok2 := Lib.hid True.intro
  clear hO1 hO2 hO3 hL1 hL2 hL3 hS1 hS2 hS3 hT1 hT2 hT3
  cases e1 : roadOk (min nO 11) (min nL 11) fO fL with
  | false =>
    have E1 := Lib.hid e1
    have hbad : Hid (potOk (min nO 11) (min nL 11) fO fL (min nS 4) A B (min nT 4) C D = false) := by show _ = _; unfold potOk withOk; rw [e1]; rfl
    clear e1
    go_enter Try.func8, Try.ntmps8
    go_wp2_with (first | (go_at_call 15; refine (FW.out _ (hO.kept hKw) (hL.kept hKw)).mono ?_; rintro e w4 ⟨fv, rfl, hRf, hkf⟩; obtain ⟨_, _, rfl, ⟨fa, fb, fo, fc, rfl, _, _⟩, ⟨ga, gb, go, gc, rfl, _, _⟩⟩ := id hRf) | (go_at_call 21; clear tok1; refine (SPO.out _ (hS.kept (hKw.trans hkf))).mono ?_; rintro e w5 ⟨sv, rfl, hO5, hk5⟩; have hP5 := PairsAt.of_prL hO5; obtain ⟨sa, sc, rfl, hsc⟩ := own_cap hO5) | (go_at_call 21; refine (SPT.out _ (hT.kept ((hKw.trans hkf).trans hk5))).mono ?_; rintro e w5b ⟨tv, rfl, hO5b, hk5b⟩; have hQ5 := PairsAt.of_prL hO5b; obtain ⟨ta, tc, rfl, htc⟩ := own_cap hO5b; obtain ⟨W6, hW6, hsz6, r0, r1, hK6⟩ := newbox2 w5b w5b.heap.size rfl (.slice fa (min nO 11) fc) (.slice ga (min nL 11) gc) 24; have hRf6 := hRf.kept ((hk5.trans hk5b).trans hK6); have hP6 := hP5.kept (hk5b.trans hK6); have hQ6 := hQ5.kept hK6; have hK06 := (((hKw.trans hkf).trans hk5).trans hk5b).trans hK6) | (go_at_call 43; refine (Potential_any _ _ (min nO 11) (min nL 11) fO fL hRf6 (by omega) (by omega) _ (min nS 4) _ A B hP6 hsc (by omega) _ (min nT 4) _ C D hQ6 htc (by omega)).mono ?_; intro e w7 hd; obtain ⟨hd1, hd2, hk7⟩ := hd; obtain rfl := hd2 hbad.out; obtain ⟨b0, b1, _⟩ := keep2 r0 r1 hk7) | (go_at_call 17; refine (rRoad_any _ _ (min nO 11) (min nL 11) fO fL (hRf6.kept hk7) (by omega) (by omega)).mono ?_; rw [E1.out]; rintro e w8 ⟨rfl, hk8⟩; obtain ⟨c0, c1, _⟩ := keep2 b0 b1 hk8) | (go_at_call 19; refine (lives_any _).mono ?_; rintro e w15 ⟨rfl, hk15⟩))
    go_ret
    exact ⟨rfl, hK06.trans (by repeat (first | assumption | exact Kept.refl _ | apply Kept.drew | apply Kept.drewN | apply Kept.alloc | refine Kept.trans ?_ (by assumption)))⟩
  | true =>
    have E1 := Lib.hid e1
    have ok := roadR_ok e1
    cases e2 : handsOk (roadR (min nO 11) fO fL) (min nS 4) A B with
    | false =>
      have hbad : Hid (potOk (min nO 11) (min nL 11) fO fL (min nS 4) A B (min nT 4) C D = false) := by show _ = _; unfold potOk withOk; rw [e1, e2]; rfl
      have HA : Hid (∀ W v sa sc (hW : RefAt W v (roadR (min nO 11) fO fL)) (hP : PairsAt W (.slice sa (min nS 4) sc) (min nS 4) A B), Calls Try.prog 23 #[v, .slice sa (min nS 4) sc] W fun e w' => e = .returned (.bool false) ∧ Kept W w') := fun W v sa sc hW hP => by rw [← e2]; exact rHands_any W v _ _ ok hW (min nS 4) A B hP (by omega)
      clear e1 e2
      go_enter Try.func8, Try.ntmps8
      go_wp2_with (first | (go_at_call 15; refine (FW.out _ (hO.kept hKw) (hL.kept hKw)).mono ?_; rintro e w4 ⟨fv, rfl, hRf, hkf⟩; obtain ⟨_, _, rfl, ⟨fa, fb, fo, fc, rfl, _, _⟩, ⟨ga, gb, go, gc, rfl, _, _⟩⟩ := id hRf) | (go_at_call 21; clear tok1; refine (SPO.out _ (hS.kept (hKw.trans hkf))).mono ?_; rintro e w5 ⟨sv, rfl, hO5, hk5⟩; have hP5 := PairsAt.of_prL hO5; obtain ⟨sa, sc, rfl, hsc⟩ := own_cap hO5) | (go_at_call 21; refine (SPT.out _ (hT.kept ((hKw.trans hkf).trans hk5))).mono ?_; rintro e w5b ⟨tv, rfl, hO5b, hk5b⟩; have hQ5 := PairsAt.of_prL hO5b; obtain ⟨ta, tc, rfl, htc⟩ := own_cap hO5b; obtain ⟨W6, hW6, hsz6, r0, r1, hK6⟩ := newbox2 w5b w5b.heap.size rfl (.slice fa (min nO 11) fc) (.slice ga (min nL 11) gc) 24; have hRf6 := hRf.kept ((hk5.trans hk5b).trans hK6); have hP6 := hP5.kept (hk5b.trans hK6); have hQ6 := hQ5.kept hK6; have hK06 := (((hKw.trans hkf).trans hk5).trans hk5b).trans hK6) | (go_at_call 43; refine (Potential_any _ _ (min nO 11) (min nL 11) fO fL hRf6 (by omega) (by omega) _ (min nS 4) _ A B hP6 hsc (by omega) _ (min nT 4) _ C D hQ6 htc (by omega)).mono ?_; intro e w7 hd; obtain ⟨hd1, hd2, hk7⟩ := hd; obtain rfl := hd2 hbad.out; obtain ⟨b0, b1, _⟩ := keep2 r0 r1 hk7) | (go_at_call 17; refine (rRoad_any _ _ (min nO 11) (min nL 11) fO fL (hRf6.kept hk7) (by omega) (by omega)).mono ?_; rw [E1.out]; rintro e w8 ⟨rfl, hk8⟩; obtain ⟨c0, c1, _⟩ := keep2 b0 b1 hk8) | (go_at_call 23; refine (HA.out _ _ _ _ (RefAt.of_in (hRf6.kept (hk7.trans hk8)) E1.out) (hP6.kept (hk7.trans hk8))).mono ?_; rintro e w9 ⟨rfl, hk9⟩; obtain ⟨d0, d1, _⟩ := keep2 c0 c1 hk9; have hk79 := (hk7.trans hk8).trans hk9) | (go_at_call 19; refine (lives_any _).mono ?_; rintro e w15 ⟨rfl, hk15⟩))
      go_ret
      exact ⟨rfl, hK06.trans (by repeat (first | assumption | exact Kept.refl _ | apply Kept.drew | apply Kept.drewN | apply Kept.alloc | refine Kept.trans ?_ (by assumption)))⟩
    | true =>
      have HA : Hid (∀ W v sa sc (hW : RefAt W v (roadR (min nO 11) fO fL)) (hP : PairsAt W (.slice sa (min nS 4) sc) (min nS 4) A B), Calls Try.prog 23 #[v, .slice sa (min nS 4) sc] W fun e w' => e = .returned (.bool true) ∧ Kept W w') := fun W v sa sc hW hP => by rw [← e2]; exact rHands_any W v _ _ ok hW (min nS 4) A B hP (by omega)
      cases e3 : handsOk (roadR (min nO 11) fO fL) (min nT 4) C D with
      | false =>
        have hbad : Hid (potOk (min nO 11) (min nL 11) fO fL (min nS 4) A B (min nT 4) C D = false) := by show _ = _; unfold potOk; rw [e3]; simp
        have HB : Hid (∀ W v sa sc (hW : RefAt W v (roadR (min nO 11) fO fL)) (hP : PairsAt W (.slice sa (min nT 4) sc) (min nT 4) C D), Calls Try.prog 23 #[v, .slice sa (min nT 4) sc] W fun e w' => e = .returned (.bool false) ∧ Kept W w') := fun W v sa sc hW hP => by rw [← e3]; exact rHands_any W v _ _ ok hW (min nT 4) C D hP (by omega)
        clear e1 e2 e3
        go_enter Try.func8, Try.ntmps8
        go_wp2_with (first | (go_at_call 15; refine (FW.out _ (hO.kept hKw) (hL.kept hKw)).mono ?_; rintro e w4 ⟨fv, rfl, hRf, hkf⟩; obtain ⟨_, _, rfl, ⟨fa, fb, fo, fc, rfl, _, _⟩, ⟨ga, gb, go, gc, rfl, _, _⟩⟩ := id hRf) | (go_at_call 21; clear tok1; refine (SPO.out _ (hS.kept (hKw.trans hkf))).mono ?_; rintro e w5 ⟨sv, rfl, hO5, hk5⟩; have hP5 := PairsAt.of_prL hO5; obtain ⟨sa, sc, rfl, hsc⟩ := own_cap hO5) | (go_at_call 21; refine (SPT.out _ (hT.kept ((hKw.trans hkf).trans hk5))).mono ?_; rintro e w5b ⟨tv, rfl, hO5b, hk5b⟩; have hQ5 := PairsAt.of_prL hO5b; obtain ⟨ta, tc, rfl, htc⟩ := own_cap hO5b; obtain ⟨W6, hW6, hsz6, r0, r1, hK6⟩ := newbox2 w5b w5b.heap.size rfl (.slice fa (min nO 11) fc) (.slice ga (min nL 11) gc) 24; have hRf6 := hRf.kept ((hk5.trans hk5b).trans hK6); have hP6 := hP5.kept (hk5b.trans hK6); have hQ6 := hQ5.kept hK6; have hK06 := (((hKw.trans hkf).trans hk5).trans hk5b).trans hK6) | (go_at_call 43; refine (Potential_any _ _ (min nO 11) (min nL 11) fO fL hRf6 (by omega) (by omega) _ (min nS 4) _ A B hP6 hsc (by omega) _ (min nT 4) _ C D hQ6 htc (by omega)).mono ?_; intro e w7 hd; obtain ⟨hd1, hd2, hk7⟩ := hd; obtain rfl := hd2 hbad.out; obtain ⟨b0, b1, _⟩ := keep2 r0 r1 hk7) | (go_at_call 17; refine (rRoad_any _ _ (min nO 11) (min nL 11) fO fL (hRf6.kept hk7) (by omega) (by omega)).mono ?_; rw [E1.out]; rintro e w8 ⟨rfl, hk8⟩; obtain ⟨c0, c1, _⟩ := keep2 b0 b1 hk8) | (go_at_call 23; clear tok2; refine (HA.out _ _ _ _ (RefAt.of_in (hRf6.kept (hk7.trans hk8)) E1.out) (hP6.kept (hk7.trans hk8))).mono ?_; rintro e w9 ⟨rfl, hk9⟩; obtain ⟨d0, d1, _⟩ := keep2 c0 c1 hk9; have hk79 := (hk7.trans hk8).trans hk9) | (go_at_call 23; refine (HB.out _ _ _ _ (RefAt.of_in (hRf6.kept hk79) E1.out) (hQ6.kept hk79)).mono ?_; rintro e w10 ⟨rfl, hk10⟩; obtain ⟨f0, f1, _⟩ := keep2 d0 d1 hk10; have hk710 := hk79.trans hk10) | (go_at_call 19; refine (lives_any _).mono ?_; rintro e w15 ⟨rfl, hk15⟩))
        go_ret
        exact ⟨rfl, hK06.trans (by repeat (first | assumption | exact Kept.refl _ | apply Kept.drew | apply Kept.drewN | apply Kept.alloc | refine Kept.trans ?_ (by assumption)))⟩
      | true =>
        have HB : Hid (∀ W v sa sc (hW : RefAt W v (roadR (min nO 11) fO fL)) (hP : PairsAt W (.slice sa (min nT 4) sc) (min nT 4) C D), Calls Try.prog 23 #[v, .slice sa (min nT 4) sc] W fun e w' => e = .returned (.bool true) ∧ Kept W w') := fun W v sa sc hW hP => by rw [← e3]; exact rHands_any W v _ _ ok hW (min nT 4) C D hP (by omega)
        obtain ⟨k, HKk⟩ : ∃ k, Hid (k = min nS 4) := ⟨_, rfl⟩
        obtain ⟨l, HLl⟩ : ∃ l, Hid (l = min nT 4) := ⟨_, rfl⟩
        by_cases e4 : k = l
        · rw [HKk.out, HLl.out] at e4
          have hgood : Hid (potOk (min nO 11) (min nL 11) fO fL (min nS 4) A B (min nT 4) C D = true) := by show _ = _; unfold potOk withOk; rw [e1, e2, e3, decide_eq_true e4]; rfl
          obtain ⟨p1, hk1, hk3, hm12, p5, p6⟩ := withOk_parts (show withOk (min nO 11) (min nL 11) fO fL (min nS 4) A B 0 (fun _ => 0) = true by unfold withOk; rw [e1, e2]; rfl)
          have p7 : ∀ i, i < min nT 4 → (roadR (min nO 11) fO fL).isSp (C i) (D i) = true := by
            unfold handsOk at e3
            simp only [Bool.and_eq_true, allN_true] at e3
            exact e3.1
          obtain ⟨z, HZ⟩ : ∃ z, Hid (z = potP (roadR (min nO 11) fO fL) (min nS 4) (handsN A B) (handsN C D)) := ⟨_, rfl⟩
          have RP : Hid (∀ W v (hW : RefAt W v (roadR (min nO 11) fO fL)) sa sc ta tc (hsc : min nS 4 ≤ sc) (htc : min nT 4 ≤ tc) (hP : PairsAt W (.slice sa (min nS 4) sc) (min nS 4) A B) (hQ : PairsAt W (.slice ta (min nT 4) tc) (min nT 4) C D), Calls Try.prog 44 #[v, .slice sa (min nS 4) sc, .slice ta (min nT 4) tc] W fun e w' => e = .returned (.int .i64 (z : Int)) ∧ Kept W w') := by
            show ∀ W v, _
            rw [HZ.out]
            rw [← e4] at p7 ⊢
            exact fun W v hW sa sc ta tc hsc htc hP hQ => rPotential_any W v _ ok (min nS 4) (by omega) sa ta sc tc _ _ hW (hands_sps hP p5).1 hsc (hands_sps hQ p7).1 htc (fun i hi => (isSp_spot (p5 i hi)).1) (fun i hi => (isSp_spot (p7 i hi)).1)
          have n1 : ((min nS 4 : Nat) : Int) = ((min nT 4 : Nat) : Int) := by rw [e4]
          clear e1 e2 e3 e4 p5 p6 p7
          go_enter Try.func8, Try.ntmps8
          go_wp2_with (first | (go_at_call 15; refine (FW.out _ (hO.kept hKw) (hL.kept hKw)).mono ?_; rintro e w4 ⟨fv, rfl, hRf, hkf⟩; obtain ⟨_, _, rfl, ⟨fa, fb, fo, fc, rfl, _, _⟩, ⟨ga, gb, go, gc, rfl, _, _⟩⟩ := id hRf) | (go_at_call 21; clear tok1; refine (SPO.out _ (hS.kept (hKw.trans hkf))).mono ?_; rintro e w5 ⟨sv, rfl, hO5, hk5⟩; have hP5 := PairsAt.of_prL hO5; obtain ⟨sa, sc, rfl, hsc⟩ := own_cap hO5) | (go_at_call 21; refine (SPT.out _ (hT.kept ((hKw.trans hkf).trans hk5))).mono ?_; rintro e w5b ⟨tv, rfl, hO5b, hk5b⟩; have hQ5 := PairsAt.of_prL hO5b; obtain ⟨ta, tc, rfl, htc⟩ := own_cap hO5b; obtain ⟨W6, hW6, hsz6, r0, r1, hK6⟩ := newbox2 w5b w5b.heap.size rfl (.slice fa (min nO 11) fc) (.slice ga (min nL 11) gc) 24; have hRf6 := hRf.kept ((hk5.trans hk5b).trans hK6); have hP6 := hP5.kept (hk5b.trans hK6); have hQ6 := hQ5.kept hK6; have hK06 := (((hKw.trans hkf).trans hk5).trans hk5b).trans hK6) | (go_at_call 43; refine (Potential_any _ _ (min nO 11) (min nL 11) fO fL hRf6 (by omega) (by omega) _ (min nS 4) _ A B hP6 hsc (by omega) _ (min nT 4) _ C D hQ6 htc (by omega)).mono ?_; intro e w7 hd; obtain ⟨hd1, hd2, hk7⟩ := hd; obtain rfl := hd1 hgood.out; rw [← HZ.out]; obtain ⟨b0, b1, _⟩ := keep2 r0 r1 hk7) | (go_at_call 17; refine (rRoad_any _ _ (min nO 11) (min nL 11) fO fL (hRf6.kept hk7) (by omega) (by omega)).mono ?_; rw [E1.out]; rintro e w8 ⟨rfl, hk8⟩; obtain ⟨c0, c1, _⟩ := keep2 b0 b1 hk8) | (go_at_call 23; clear tok2; refine (HA.out _ _ _ _ (RefAt.of_in (hRf6.kept (hk7.trans hk8)) E1.out) (hP6.kept (hk7.trans hk8))).mono ?_; rintro e w9 ⟨rfl, hk9⟩; obtain ⟨d0, d1, _⟩ := keep2 c0 c1 hk9; have hk79 := (hk7.trans hk8).trans hk9) | (go_at_call 23; refine (HB.out _ _ _ _ (RefAt.of_in (hRf6.kept hk79) E1.out) (hQ6.kept hk79)).mono ?_; rintro e w10 ⟨rfl, hk10⟩; obtain ⟨f0, f1, _⟩ := keep2 d0 d1 hk10; have hk710 := hk79.trans hk10) | (go_at_call 44; refine (RP.out _ _ (RefAt.of_in (hRf6.kept hk710) E1.out) _ _ _ _ hsc htc (hP6.kept hk710) (hQ6.kept hk710)).mono ?_; rintro e w11 ⟨rfl, hk11⟩) | (go_at_call 19; refine (lives_any _).mono ?_; rintro e w15 ⟨rfl, hk15⟩))
          go_ret
          exact ⟨rfl, hK06.trans (by repeat (first | assumption | exact Kept.refl _ | apply Kept.drew | apply Kept.drewN | apply Kept.alloc | refine Kept.trans ?_ (by assumption)))⟩
        · rw [HKk.out, HLl.out] at e4
          have hbad : Hid (potOk (min nO 11) (min nL 11) fO fL (min nS 4) A B (min nT 4) C D = false) := by show _ = _; unfold potOk; rw [decide_eq_false e4]; simp
          have n1 : ¬ ((min nS 4 : Nat) : Int) = ((min nT 4 : Nat) : Int) := by omega
          clear e1 e2 e3 e4
          go_enter Try.func8, Try.ntmps8
          go_wp2_with (first | (go_at_call 15; refine (FW.out _ (hO.kept hKw) (hL.kept hKw)).mono ?_; rintro e w4 ⟨fv, rfl, hRf, hkf⟩; obtain ⟨_, _, rfl, ⟨fa, fb, fo, fc, rfl, _, _⟩, ⟨ga, gb, go, gc, rfl, _, _⟩⟩ := id hRf) | (go_at_call 21; clear tok1; refine (SPO.out _ (hS.kept (hKw.trans hkf))).mono ?_; rintro e w5 ⟨sv, rfl, hO5, hk5⟩; have hP5 := PairsAt.of_prL hO5; obtain ⟨sa, sc, rfl, hsc⟩ := own_cap hO5) | (go_at_call 21; refine (SPT.out _ (hT.kept ((hKw.trans hkf).trans hk5))).mono ?_; rintro e w5b ⟨tv, rfl, hO5b, hk5b⟩; have hQ5 := PairsAt.of_prL hO5b; obtain ⟨ta, tc, rfl, htc⟩ := own_cap hO5b; obtain ⟨W6, hW6, hsz6, r0, r1, hK6⟩ := newbox2 w5b w5b.heap.size rfl (.slice fa (min nO 11) fc) (.slice ga (min nL 11) gc) 24; have hRf6 := hRf.kept ((hk5.trans hk5b).trans hK6); have hP6 := hP5.kept (hk5b.trans hK6); have hQ6 := hQ5.kept hK6; have hK06 := (((hKw.trans hkf).trans hk5).trans hk5b).trans hK6) | (go_at_call 43; refine (Potential_any _ _ (min nO 11) (min nL 11) fO fL hRf6 (by omega) (by omega) _ (min nS 4) _ A B hP6 hsc (by omega) _ (min nT 4) _ C D hQ6 htc (by omega)).mono ?_; intro e w7 hd; obtain ⟨hd1, hd2, hk7⟩ := hd; obtain rfl := hd2 hbad.out; obtain ⟨b0, b1, _⟩ := keep2 r0 r1 hk7) | (go_at_call 17; refine (rRoad_any _ _ (min nO 11) (min nL 11) fO fL (hRf6.kept hk7) (by omega) (by omega)).mono ?_; rw [E1.out]; rintro e w8 ⟨rfl, hk8⟩; obtain ⟨c0, c1, _⟩ := keep2 b0 b1 hk8) | (go_at_call 23; clear tok2; refine (HA.out _ _ _ _ (RefAt.of_in (hRf6.kept (hk7.trans hk8)) E1.out) (hP6.kept (hk7.trans hk8))).mono ?_; rintro e w9 ⟨rfl, hk9⟩; obtain ⟨d0, d1, _⟩ := keep2 c0 c1 hk9; have hk79 := (hk7.trans hk8).trans hk9) | (go_at_call 23; refine (HB.out _ _ _ _ (RefAt.of_in (hRf6.kept hk79) E1.out) (hQ6.kept hk79)).mono ?_; rintro e w10 ⟨rfl, hk10⟩; obtain ⟨f0, f1, _⟩ := keep2 d0 d1 hk10; have hk710 := hk79.trans hk10) | (go_at_call 19; refine (lives_any _).mono ?_; rintro e w15 ⟨rfl, hk15⟩))
          go_ret
          exact ⟨rfl, hK06.trans (by repeat (first | assumption | exact Kept.refl _ | apply Kept.drew | apply Kept.drewN | apply Kept.alloc | refine Kept.trans ?_ (by assumption)))⟩
end Go.Proofs.Ytlgpclnmonpkjaa
