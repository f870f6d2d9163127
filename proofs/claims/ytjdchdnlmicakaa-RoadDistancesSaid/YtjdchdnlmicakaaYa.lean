/-
  The law RoadDistances.
-/
import Derived.Test.YtjdchdnlmicakaaWg
namespace Go.Proofs.Ytjdchdnlmicakaa
open Go.RowKit Go.Deep

set_option maxRecDepth 100000 in
set_option maxHeartbeats 8000000 in
theorem RoadDistances_any (w : World) (aO aL : Option Addr) (nO cO nL cL : Nat) (fO fL : Nat → Int) (hO : IntsAt w (.slice aO nO cO) nO fO) (hO1 : nO ≤ cO) (hO2 : aO = none → cO = 0) (hO3 : cO ≤ maxLen) (hL : IntsAt w (.slice aL nL cL) nL fL) (hL1 : nL ≤ cL) (hL2 : aL = none → cL = 0) (hL3 : cL ≤ maxLen) (p u q x : Int) :
    Calls Try.prog 3 #[.agg #[.slice aO nO cO, .slice aL nL cL], .agg #[.int .i64 p, .int .i64 u], .agg #[.int .i64 q, .int .i64 x]] w fun e w' => e = .returned (.bool true) ∧ Kept w w' := by
  have FW := Lib.hid (fun W hO hL => few_any W aO aL nO cO nL cL fO fL hO hO1 hO2 hO3 hL hL1 hL2 hL3)
  obtain ⟨n0, HN0⟩ : ∃ n0, w.heap.size = n0 := ⟨_, rfl⟩
  obtain ⟨W1, hW1, hsz, q0, q1, hK⟩ := newbox2 w n0 HN0 (.slice aO nO cO) (.slice aL nL cL) 24
  obtain ⟨W2, hW2, hsz2, y0, y1, hK1⟩ := newbox2 W1 (n0 + 1) hsz (.int .i64 p) (.int .i64 u) 26
  obtain ⟨W3, hW3, hsz3, z0, z1, hK2⟩ := newbox2 W2 (n0 + 1 + 1) hsz2 (.int .i64 q) (.int .i64 x) 26
  obtain ⟨q0', q1', _⟩ := keep2 q0 q1 (hK1.trans hK2)
  obtain ⟨y0', y1', _⟩ := keep2 y0 y1 hK2
  have hKw := (hK.trans hK1).trans hK2
  clear q0 q1 y0 y1 hK hK1 hK2 hO1 hO2 hO3 hL1 hL2 hL3
  cases e1 : roadOk (min nO 11) (min nL 11) fO fL with
  | false =>
    have E1 := Lib.hid e1
    have hbad : Hid (distOk (min nO 11) (min nL 11) fO fL p u q x = false) := by show _ = _; unfold distOk; rw [e1]; rfl
    clear e1
    go_enter Try.func3, Try.ntmps3
    go_wp2_with (first | (go_at_call 15; refine (FW.out _ (hO.kept hKw) (hL.kept hKw)).mono ?_; rintro e w4 ⟨fv, rfl, hRf, hkf⟩; obtain ⟨_, _, rfl, ⟨fa, fb, fo, fc, rfl, _, _⟩, ⟨ga, gb, go, gc, rfl, _, _⟩⟩ := id hRf; obtain ⟨W5, hW5, hsz5, r0, r1, hK5⟩ := newbox2 w4 w4.heap.size rfl (.slice fa (min nO 11) fc) (.slice ga (min nL 11) gc) 24; have hRf5 := hRf.kept hK5; obtain ⟨a1, a2, a3, a4, _⟩ := keep4 y0' y1' z0 z1 (hkf.trans hK5); have hK05 := (hKw.trans hkf).trans hK5) | (go_at_call 16; refine (Distance_any _ _ (min nO 11) (min nL 11) fO fL hRf5 (by omega) (by omega) p u q x).mono ?_; intro e w6 hd; obtain ⟨hd1, hd2, hk6⟩ := hd; obtain rfl := hd2 hbad.out; obtain ⟨b1, b2, b3, b4, b5, b6, _⟩ := keep6 a1 a2 a3 a4 r0 r1 hk6) | (go_at_call 17; refine (rRoad_any _ _ (min nO 11) (min nL 11) fO fL (hRf5.kept hk6) (by omega) (by omega)).mono ?_; rw [E1.out]; rintro e w7 ⟨rfl, hk7⟩; obtain ⟨c1, c2, c3, c4, c5, c6, _⟩ := keep6 b1 b2 b3 b4 b5 b6 hk7) | (go_at_call 19; refine (lives_any _).mono ?_; rintro e w9 ⟨rfl, hk9⟩))
    go_ret
    exact ⟨rfl, hK05.trans (by repeat (first | assumption | exact Kept.refl _ | apply Kept.drew | apply Kept.drewN | apply Kept.alloc | refine Kept.trans ?_ (by assumption)))⟩
  | true =>
    have E1 := Lib.hid e1
    have ok := roadR_ok e1
    have SPB : Hid (∀ W v (s t : Int) (b : Bool), RoadIn W v (min nO 11) (min nL 11) fO fL → (roadR (min nO 11) fO fL).isSp s t = b → Calls Try.prog 18 #[v, .agg #[.int .i64 s, .int .i64 t]] W fun e w' => e = .returned (.bool b) ∧ Kept W w') := fun W v s t b hW hb => by rw [← hb]; exact rSpot_any W v _ ok (RefAt.of_in hW e1) s t
    cases e2 : (roadR (min nO 11) fO fL).isSp p u with
    | false =>
      have E2 := Lib.hid e2
      have hbad : Hid (distOk (min nO 11) (min nL 11) fO fL p u q x = false) := by show _ = _; unfold distOk; rw [e2]; simp
      clear e1 e2
      go_enter Try.func3, Try.ntmps3
      go_wp2_with (first | (go_at_call 15; refine (FW.out _ (hO.kept hKw) (hL.kept hKw)).mono ?_; rintro e w4 ⟨fv, rfl, hRf, hkf⟩; obtain ⟨_, _, rfl, ⟨fa, fb, fo, fc, rfl, _, _⟩, ⟨ga, gb, go, gc, rfl, _, _⟩⟩ := id hRf; obtain ⟨W5, hW5, hsz5, r0, r1, hK5⟩ := newbox2 w4 w4.heap.size rfl (.slice fa (min nO 11) fc) (.slice ga (min nL 11) gc) 24; have hRf5 := hRf.kept hK5; obtain ⟨a1, a2, a3, a4, _⟩ := keep4 y0' y1' z0 z1 (hkf.trans hK5); have hK05 := (hKw.trans hkf).trans hK5) | (go_at_call 16; refine (Distance_any _ _ (min nO 11) (min nL 11) fO fL hRf5 (by omega) (by omega) p u q x).mono ?_; intro e w6 hd; obtain ⟨hd1, hd2, hk6⟩ := hd; obtain rfl := hd2 hbad.out; obtain ⟨b1, b2, b3, b4, b5, b6, _⟩ := keep6 a1 a2 a3 a4 r0 r1 hk6) | (go_at_call 17; refine (rRoad_any _ _ (min nO 11) (min nL 11) fO fL (hRf5.kept hk6) (by omega) (by omega)).mono ?_; rw [E1.out]; rintro e w7 ⟨rfl, hk7⟩; obtain ⟨c1, c2, c3, c4, c5, c6, _⟩ := keep6 b1 b2 b3 b4 b5 b6 hk7) | (go_at_call 18; refine (SPB.out _ _ _ _ _ (hRf5.kept (by repeat (first | assumption | exact Kept.refl _ | apply Kept.drew | apply Kept.drewN | apply Kept.alloc | refine Kept.trans ?_ (by assumption)))) (by first | exact E2.out)).mono ?_; rintro e w8 ⟨rfl, hk8⟩; obtain ⟨d1, d2, d3, d4, d5, d6, _⟩ := keep6 a1 a2 a3 a4 r0 r1 (show Kept W5 w8 from (by repeat (first | assumption | exact Kept.refl _ | apply Kept.drew | apply Kept.drewN | apply Kept.alloc | refine Kept.trans ?_ (by assumption))))) | (go_at_call 19; refine (lives_any _).mono ?_; rintro e w9 ⟨rfl, hk9⟩))
      go_ret
      exact ⟨rfl, hK05.trans (by repeat (first | assumption | exact Kept.refl _ | apply Kept.drew | apply Kept.drewN | apply Kept.alloc | refine Kept.trans ?_ (by assumption)))⟩
    | true =>
      have E2 := Lib.hid e2
      cases e3 : (roadR (min nO 11) fO fL).isSp q x with
      | false =>
        have E3 := Lib.hid e3
        have hbad : Hid (distOk (min nO 11) (min nL 11) fO fL p u q x = false) := by show _ = _; unfold distOk; rw [e3]; simp
        clear e1 e2 e3
        go_enter Try.func3, Try.ntmps3
        go_wp2_with (first | (go_at_call 15; refine (FW.out _ (hO.kept hKw) (hL.kept hKw)).mono ?_; rintro e w4 ⟨fv, rfl, hRf, hkf⟩; obtain ⟨_, _, rfl, ⟨fa, fb, fo, fc, rfl, _, _⟩, ⟨ga, gb, go, gc, rfl, _, _⟩⟩ := id hRf; obtain ⟨W5, hW5, hsz5, r0, r1, hK5⟩ := newbox2 w4 w4.heap.size rfl (.slice fa (min nO 11) fc) (.slice ga (min nL 11) gc) 24; have hRf5 := hRf.kept hK5; obtain ⟨a1, a2, a3, a4, _⟩ := keep4 y0' y1' z0 z1 (hkf.trans hK5); have hK05 := (hKw.trans hkf).trans hK5) | (go_at_call 16; refine (Distance_any _ _ (min nO 11) (min nL 11) fO fL hRf5 (by omega) (by omega) p u q x).mono ?_; intro e w6 hd; obtain ⟨hd1, hd2, hk6⟩ := hd; obtain rfl := hd2 hbad.out; obtain ⟨b1, b2, b3, b4, b5, b6, _⟩ := keep6 a1 a2 a3 a4 r0 r1 hk6) | (go_at_call 17; refine (rRoad_any _ _ (min nO 11) (min nL 11) fO fL (hRf5.kept hk6) (by omega) (by omega)).mono ?_; rw [E1.out]; rintro e w7 ⟨rfl, hk7⟩; obtain ⟨c1, c2, c3, c4, c5, c6, _⟩ := keep6 b1 b2 b3 b4 b5 b6 hk7) | (go_at_call 18; refine (SPB.out _ _ _ _ _ (hRf5.kept (by repeat (first | assumption | exact Kept.refl _ | apply Kept.drew | apply Kept.drewN | apply Kept.alloc | refine Kept.trans ?_ (by assumption)))) (by first | exact E2.out | exact E3.out)).mono ?_; rintro e w8 ⟨rfl, hk8⟩; obtain ⟨d1, d2, d3, d4, d5, d6, _⟩ := keep6 a1 a2 a3 a4 r0 r1 (show Kept W5 w8 from (by repeat (first | assumption | exact Kept.refl _ | apply Kept.drew | apply Kept.drewN | apply Kept.alloc | refine Kept.trans ?_ (by assumption))))) | (go_at_call 19; refine (lives_any _).mono ?_; rintro e w9 ⟨rfl, hk9⟩))
        go_ret
        exact ⟨rfl, hK05.trans (by repeat (first | assumption | exact Kept.refl _ | apply Kept.drew | apply Kept.drewN | apply Kept.alloc | refine Kept.trans ?_ (by assumption)))⟩
      | true =>
        have E3 := Lib.hid e3
        have hgood : Hid (distOk (min nO 11) (min nL 11) fO fL p u q x = true) := by show _ = _; unfold distOk; rw [e1, e2, e3]; rfl
        obtain ⟨hsp, hp1, hp2, hp3⟩ := isSp_spot e2
        obtain ⟨hsq, hq1, hq2, hq3⟩ := isSp_spot e3
        obtain ⟨p', rfl⟩ : ∃ p' : Nat, p = p' := ⟨p.toNat, by omega⟩
        obtain ⟨u', rfl⟩ : ∃ p' : Nat, u = p' := ⟨u.toNat, by omega⟩
        obtain ⟨q', rfl⟩ : ∃ p' : Nat, q = p' := ⟨q.toNat, by omega⟩
        obtain ⟨x', rfl⟩ : ∃ p' : Nat, x = p' := ⟨x.toNat, by omega⟩
        simp only [Int.toNat_natCast] at hsp hsq
        have RD := Lib.hid (fun W v (hW : RefAt W v (roadR (min nO 11) fO fL)) => rDistance_any W v _ ok hW (p', u') (q', x') hsp hsq)
        unfold SpV at RD
        simp only at RD
        have DVAL : Hid (∀ e : Ending, (distOk (min nO 11) (min nL 11) fO fL p' u' q' x' = true → e = .returned (.tuple #[.int .i64 (((roadR (min nO 11) fO fL).dist ((p' : Int).toNat, (u' : Int).toNat) ((q' : Int).toNat, (x' : Int).toNat) : Nat) : Int), .int .i64 0])) → e = .returned (.tuple #[.int .i64 (((roadR (min nO 11) fO fL).dist (p', u') (q', x') : Nat) : Int), .int .i64 0])) := fun e h => h hgood.out
        obtain ⟨d, HD⟩ : ∃ d, Hid (d = (roadR (min nO 11) fO fL).dist (p', u') (q', x')) := ⟨_, rfl⟩
        rw [← HD.out] at RD DVAL
        clear e1 e2 e3
        go_enter Try.func3, Try.ntmps3
        go_wp2_with (first | (go_at_call 15; refine (FW.out _ (hO.kept hKw) (hL.kept hKw)).mono ?_; rintro e w4 ⟨fv, rfl, hRf, hkf⟩; obtain ⟨_, _, rfl, ⟨fa, fb, fo, fc, rfl, _, _⟩, ⟨ga, gb, go, gc, rfl, _, _⟩⟩ := id hRf; obtain ⟨W5, hW5, hsz5, r0, r1, hK5⟩ := newbox2 w4 w4.heap.size rfl (.slice fa (min nO 11) fc) (.slice ga (min nL 11) gc) 24; have hRf5 := hRf.kept hK5; obtain ⟨a1, a2, a3, a4, _⟩ := keep4 y0' y1' z0 z1 (hkf.trans hK5); have hK05 := (hKw.trans hkf).trans hK5) | (go_at_call 16; refine (Distance_any _ _ (min nO 11) (min nL 11) fO fL hRf5 (by omega) (by omega) p' u' q' x').mono ?_; intro e w6 hd; obtain ⟨hd1, hd2, hk6⟩ := hd; obtain rfl := DVAL.out _ hd1; obtain ⟨b1, b2, b3, b4, b5, b6, _⟩ := keep6 a1 a2 a3 a4 r0 r1 hk6) | (go_at_call 17; refine (rRoad_any _ _ (min nO 11) (min nL 11) fO fL (hRf5.kept hk6) (by omega) (by omega)).mono ?_; rw [E1.out]; rintro e w7 ⟨rfl, hk7⟩; obtain ⟨c1, c2, c3, c4, c5, c6, _⟩ := keep6 b1 b2 b3 b4 b5 b6 hk7) | (go_at_call 18; refine (SPB.out _ _ _ _ _ (hRf5.kept (by repeat (first | assumption | exact Kept.refl _ | apply Kept.drew | apply Kept.drewN | apply Kept.alloc | refine Kept.trans ?_ (by assumption)))) (by first | exact E2.out | exact E3.out)).mono ?_; rintro e w8 ⟨rfl, hk8⟩; obtain ⟨d1, d2, d3, d4, d5, d6, _⟩ := keep6 a1 a2 a3 a4 r0 r1 (show Kept W5 w8 from (by repeat (first | assumption | exact Kept.refl _ | apply Kept.drew | apply Kept.drewN | apply Kept.alloc | refine Kept.trans ?_ (by assumption))))) | (go_at_call 20; refine (RD.out _ _ (RefAt.of_in (hRf5.kept (by repeat (first | assumption | exact Kept.refl _ | apply Kept.drew | apply Kept.drewN | apply Kept.alloc | refine Kept.trans ?_ (by assumption)))) E1.out)).mono ?_; rintro e w10 ⟨rfl, hk10⟩) | (go_at_call 19; refine (lives_any _).mono ?_; rintro e w9 ⟨rfl, hk9⟩))
        go_ret
        exact ⟨rfl, hK05.trans (by repeat (first | assumption | exact Kept.refl _ | apply Kept.drew | apply Kept.drewN | apply Kept.alloc | refine Kept.trans ?_ (by assumption)))⟩
end Go.Proofs.Ytjdchdnlmicakaa
