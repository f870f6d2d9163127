/-
  Package road: treeWith.
-/
import Derived.Test.YtlgpclnmonpkjaaTq
import Derived.Test.YtlgpclnmonpkjaaTr
namespace Go.Proofs.Ytlgpclnmonpkjaa
open Go.RowKit Go.Deep

/-- a road with farriers and calls on it -/
def withOk (nO nL : Nat) (fO fL : Nat → Int) (k : Nat) (A B : Nat → Int) (m : Nat) (C : Nat → Int) : Bool := roadOk nO nL fO fL && (handsOk (roadR nO fO fL) k A B && callsOk (roadR nO fO fL) m C)
def WithPost (w : World) (nO nL : Nat) (fO fL : Nat → Int) (k : Nat) (A B : Nat → Int) (m : Nat) (C : Nat → Int) (e : Ending) (w' : World) : Prop :=
  if withOk nO nL fO fL k A B m C = true then (∃ v, e = .returned (.tuple #[v, .int .i64 0]) ∧ TreeAt w' v (roadR nO fO fL) ∧ Kept w w') else e = .returned (.tuple #[.agg #[.slice none 0 0, .slice none 0 0, .slice none 0 0], .int .i64 1]) ∧ Kept w w'
theorem TreeNew.lower {w w2 : World} {v rv : Value} {n : Nat} (h : TreeNew w2 v rv n) (hs : w.heap.size ≤ w2.heap.size) : TreeNew w v rv n := by
  obtain ⟨x, y, dp, e1, e2, h3⟩ := h
  exact ⟨x, y, dp, e1, e2, Nat.le_trans hs h3⟩
theorem TreePost.ok {w w' : World} {nO nL : Nat} {fO fL : Nat → Int} {e : Ending} (h : roadOk nO nL fO fL = true) (hp : TreePost w nO nL fO fL e w') : ∃ v, e = .returned (.tuple #[v, .int .i64 0]) ∧ TreeAt w' v (roadR nO fO fL) ∧ Kept w w' := by
  unfold TreePost at hp
  rwa [if_pos h] at hp
theorem TreePost.bad {w w' : World} {nO nL : Nat} {fO fL : Nat → Int} {e : Ending} (h : roadOk nO nL fO fL = false) (hp : TreePost w nO nL fO fL e w') : e = .returned (.tuple #[.agg #[.slice none 0 0, .slice none 0 0, .slice none 0 0], .int .i64 1]) ∧ Kept w w' := by
  unfold TreePost at hp
  rwa [if_neg (by simp [h])] at hp
/-- numbers lie in no box of slices -/
theorem cell_notbox {w : World} {b np j : Nat} {t : TypeId} {q : Int} (hr : w.rowIs np t 3 (bx3 (.slice none 0 0) (.slice none 0 0) (.slice none 0 0))) (hc : w.cell? ⟨b, j, none⟩ = some (.int .i64 q)) : b ≠ np := by
  intro e
  subst e
  obtain ⟨c, h1, h2, h3⟩ := hr
  rw [cell_of_row w b j c t (0, 0) h1] at hc
  by_cases hj : j < 3
  · rw [h3 j hj] at hc
    have : j = 0 ∨ j = 1 ∨ j = 2 := by omega
    rcases this with rfl | rfl | rfl <;> cases hc
  · rw [Array.getElem?_eq_none (by omega)] at hc
    cases hc
theorem ints_notbox {w : World} {np n : Nat} {t : TypeId} {v : Value} {f : Nat → Int} (h : IntsAt w v n f) (hr : w.rowIs np t 3 (bx3 (.slice none 0 0) (.slice none 0 0) (.slice none 0 0))) (a b c : Value) : IntsAt (((w.setCell ⟨np, 0, none⟩ a).setCell ⟨np, 1, none⟩ b).setCell ⟨np, 2, none⟩ c) v n f := by
  obtain ⟨a0, g, o, cap, e, ha, hc⟩ := h
  refine ⟨a0, g, o, cap, e, ha, fun i hi => ?_⟩
  have hne := cell_notbox hr (hc i hi)
  have hx : ∀ j, (⟨np, j, none⟩ : Addr) ≠ ⟨g, o + i, none⟩ := fun j h => hne (congrArg Addr.block h).symm
  rw [World.cell?_setCell_other _ _ _ _ (hx 2), World.cell?_setCell_other _ _ _ _ (hx 1), World.cell?_setCell_other _ _ _ _ (hx 0)]
  exact hc i hi
theorem TreeAt.keptY {w W2 : World} {v : Value} {R : Road} {np : Nat} {t : TypeId} (h : TreeAt w v R) (hr : W2.rowIs np t 3 (bx3 (.slice none 0 0) (.slice none 0 0) (.slice none 0 0))) (k : Kept W2 w) (a b c : Value) : TreeAt (((w.setCell ⟨np, 0, none⟩ a).setCell ⟨np, 1, none⟩ b).setCell ⟨np, 2, none⟩ c) v R := by
  obtain ⟨x, y, z, e, h1, h2, h3⟩ := h
  have hr2 := k.row hr
  exact ⟨x, y, z, e, ints_notbox h1 hr2 a b c, ints_notbox h2 hr2 a b c, ints_notbox h3 hr2 a b c⟩
set_option maxRecDepth 100000 in
set_option maxHeartbeats 4000000 in
theorem treeWith_any (w : World) (v hv cv : Value) (nO nL : Nat) (fO fL : Nat → Int) (hR : RoadIn w v nO nL fO fL) (hnO : nO ≤ 1000000000) (hnL : nL ≤ 1000000000) (k : Nat) (A B : Nat → Int) (hP : PairsAt w hv k A B) (hk : k ≤ 1000000000) (m : Nat) (C : Nat → Int) (hC : IntsAt w cv m C) (hm : m ≤ 1000000000) :
    Calls Try.prog 52 #[v, hv, cv] w (fun e w' => WithPost w nO nL fO fL k A B m C e w' ∧ (withOk nO nL fO fL k A B m C = true → ∃ tv, e = .returned (.tuple #[tv, .int .i64 0]) ∧ TreeNew w tv v nO)) := by
  have hR0 := hR
  obtain ⟨x, y, rfl, ⟨aO, bO, oO, cO, rfl, _, _⟩, ⟨aL, bL, oL, cL, rfl, _, _⟩⟩ := hR
  obtain ⟨ha, hha, hhc, rfl⟩ : ∃ a n c, hv = .slice a n c := by obtain ⟨a, _, _, cap, e, _⟩ := hP; exact ⟨a, k, cap, e⟩
  obtain ⟨ca, cca, ccc, rfl⟩ : ∃ a n c, cv = .slice a n c := by obtain ⟨a, _, _, cap, e, _⟩ := hC; exact ⟨a, m, cap, e⟩
  have TO := Lib.hid (fun W (hW : RoadIn W (.agg #[.slice aO nO cO, .slice aL nL cL]) nO nL fO fL) => treeOf_any W _ nO nL fO fL hW hnO hnL)
  obtain ⟨n0, HN0⟩ : ∃ n0, w.heap.size = n0 := ⟨_, rfl⟩
  obtain ⟨W1, hW1, hsz, q0, q1, hK⟩ := newbox2 w n0 HN0 (.slice aO nO cO) (.slice aL nL cL) 24
  have hrow := box_row3 W1 (.slice none 0 0) (.slice none 0 0) (.slice none 0 0) 88 (n0 + 1) hsz
  obtain ⟨W2, hW2, hsz2, g0, g1, g2, hK1⟩ := newbox3 W1 (n0 + 1) hsz (.slice none 0 0) (.slice none 0 0) (.slice none 0 0) 88
  rw [hW2] at hrow
  obtain ⟨q0', q1', _⟩ := keep2 q0 q1 hK1
  have hK2 := hK.trans hK1
  have hge : w.heap.size ≤ n0 + 1 := by omega
  have hR2 := hR0.kept hK2
  have hP2 := hP.kept hK2
  have hC2 := hC.kept hK2
  cases e1 : roadOk nO nL fO fL with
  | false =>
    have E1 := Lib.hid e1
    have hbad : Hid (¬ withOk nO nL fO fL k A B m C = true) := by show ¬ _; unfold withOk; rw [e1]; simp
    clear e1
    go_enter Try.func52, Try.ntmps52
    go_wp2_with (first | (go_at_call 46; refine (TO.out _ hR2).mono ?_; intro e w3 hpp; obtain ⟨rfl, hk3⟩ := TreePost.bad E1.out hpp.1; obtain ⟨f0, f1, f2, y0, y1, y2, r0, r1, r2, hKF⟩ := fin3a hrow (show Kept W2 (w3.alloc (.cells #[.slice none 0 0, .slice none 0 0, .slice none 0 0] 88)) from (by repeat (first | assumption | exact Kept.refl _ | apply Kept.drew | apply Kept.drewN | apply Kept.alloc | refine Kept.trans ?_ (by assumption)))) (hK2.trans (show Kept W2 (w3.alloc (.cells #[.slice none 0 0, .slice none 0 0, .slice none 0 0] 88)) from (by repeat (first | assumption | exact Kept.refl _ | apply Kept.drew | apply Kept.drewN | apply Kept.alloc | refine Kept.trans ?_ (by assumption))))) hge (.slice none 0 0) (.slice none 0 0) (.slice none 0 0)))
    exact bodyPost_ret (v := .tuple #[.agg #[.slice none 0 0, .slice none 0 0, .slice none 0 0], .int .i64 1]) (by simp [results, Try.results52, go_sem, r0, r1, r2]) rfl ⟨by show WithPost _ _ _ _ _ _ _ _ _ _ _ _; unfold WithPost; rw [if_neg (hbad.out)]; exact ⟨rfl, hKF⟩, fun h => absurd h (hbad.out)⟩
  | true =>
    have E1 := Lib.hid e1
    have ok := roadR_ok e1
    have AH := Lib.hid (fun W v (hW : TreeAt W v (roadR nO fO fL)) (hP : PairsAt W (.slice ha hha hhc) k A B) => areHands_any W v _ _ ok hW k A B hP hk)
    have AC := Lib.hid (fun W v (hW : TreeAt W v (roadR nO fO fL)) (hP : IntsAt W (.slice ca cca ccc) m C) => areCalls_any W v _ _ ok hW m C hP hm)
    obtain ⟨b1, HB1⟩ : ∃ b, Hid (b = handsOk (roadR nO fO fL) k A B) := ⟨_, rfl⟩
    obtain ⟨b2, HB2⟩ : ∃ b, Hid (b = callsOk (roadR nO fO fL) m C) := ⟨_, rfl⟩
    have hb : Hid (withOk nO nL fO fL k A B m C = (b1 && b2)) := by show _ = _; unfold withOk; rw [e1, HB1.out, HB2.out]; rfl
    rw [← HB1.out] at AH
    rw [← HB2.out] at AC
    clear HB1 HB2 e1
    cases b1 with
    | false =>
      go_enter Try.func52, Try.ntmps52
      go_wp2_with (first | (go_at_call 46; refine (TO.out _ hR2).mono ?_; intro e w3 hpp; have htn := hpp.2 E1.out; obtain ⟨tv, rfl, hT3, hk3⟩ := TreePost.ok E1.out hpp.1; obtain ⟨tv2, etv, htn⟩ := htn; injection etv with etv; injection etv with etv; have etv2 := congrArg (fun a => a.toList.head?) etv; simp only [List.head?_cons, Option.some.injEq] at etv2; subst etv2; obtain ⟨b0', o0', c0', b1', o1', c1', b2', o2', c2', rfl, _, _, _⟩ := id (hT3.open ok); obtain ⟨W4, hW4, hsz4, u0, u1, u2, hK4⟩ := newbox3 w3 w3.heap.size rfl (.slice (some ⟨b0', o0', none⟩) (roadR nO fO fL).n c0') (.slice (some ⟨b1', o1', none⟩) (roadR nO fO fL).n c1') (.slice (some ⟨b2', o2', none⟩) (roadR nO fO fL).n c2') 88) | (go_at_call 66; refine (AH.out _ _ (hT3.kept (by repeat (first | assumption | exact Kept.refl _ | apply Kept.drew | apply Kept.drewN | apply Kept.alloc | refine Kept.trans ?_ (by assumption)))) (hP2.kept (show Kept W2 _ from (by repeat (first | assumption | exact Kept.refl _ | apply Kept.drew | apply Kept.drewN | apply Kept.alloc | refine Kept.trans ?_ (by assumption)))))).mono ?_; rintro e w5 ⟨rfl, hk5⟩; obtain ⟨f0, f1, f2, y0, y1, y2, r0, r1, r2, hKF⟩ := fin3a hrow (show Kept W2 w5 from (by repeat (first | assumption | exact Kept.refl _ | apply Kept.drew | apply Kept.drewN | apply Kept.alloc | refine Kept.trans ?_ (by assumption)))) (hK2.trans (show Kept W2 w5 from (by repeat (first | assumption | exact Kept.refl _ | apply Kept.drew | apply Kept.drewN | apply Kept.alloc | refine Kept.trans ?_ (by assumption))))) hge (.slice none 0 0) (.slice none 0 0) (.slice none 0 0)))
      exact bodyPost_ret (v := .tuple #[.agg #[.slice none 0 0, .slice none 0 0, .slice none 0 0], .int .i64 1]) (by simp [results, Try.results52, go_sem, r0, r1, r2]) rfl ⟨by show WithPost _ _ _ _ _ _ _ _ _ _ _ _; unfold WithPost; rw [if_neg (by rw [hb.out]; simp)]; exact ⟨rfl, hKF⟩, fun h => absurd h (by rw [hb.out]; simp)⟩
    | true =>
      cases b2 with
      | false =>
        go_enter Try.func52, Try.ntmps52
        go_wp2_with (first | (go_at_call 46; refine (TO.out _ hR2).mono ?_; intro e w3 hpp; have htn := hpp.2 E1.out; obtain ⟨tv, rfl, hT3, hk3⟩ := TreePost.ok E1.out hpp.1; obtain ⟨tv2, etv, htn⟩ := htn; injection etv with etv; injection etv with etv; have etv2 := congrArg (fun a => a.toList.head?) etv; simp only [List.head?_cons, Option.some.injEq] at etv2; subst etv2; obtain ⟨b0', o0', c0', b1', o1', c1', b2', o2', c2', rfl, _, _, _⟩ := id (hT3.open ok); obtain ⟨W4, hW4, hsz4, u0, u1, u2, hK4⟩ := newbox3 w3 w3.heap.size rfl (.slice (some ⟨b0', o0', none⟩) (roadR nO fO fL).n c0') (.slice (some ⟨b1', o1', none⟩) (roadR nO fO fL).n c1') (.slice (some ⟨b2', o2', none⟩) (roadR nO fO fL).n c2') 88) | (go_at_call 66; refine (AH.out _ _ (hT3.kept (by repeat (first | assumption | exact Kept.refl _ | apply Kept.drew | apply Kept.drewN | apply Kept.alloc | refine Kept.trans ?_ (by assumption)))) (hP2.kept (show Kept W2 _ from (by repeat (first | assumption | exact Kept.refl _ | apply Kept.drew | apply Kept.drewN | apply Kept.alloc | refine Kept.trans ?_ (by assumption)))))).mono ?_; rintro e w5 ⟨rfl, hk5⟩; obtain ⟨p0, p1, p2, _⟩ := keep3 u0 u1 u2 hk5) | (go_at_call 73; refine (AC.out _ _ (hT3.kept (by repeat (first | assumption | exact Kept.refl _ | apply Kept.drew | apply Kept.drewN | apply Kept.alloc | refine Kept.trans ?_ (by assumption)))) (hC2.kept (show Kept W2 _ from (by repeat (first | assumption | exact Kept.refl _ | apply Kept.drew | apply Kept.drewN | apply Kept.alloc | refine Kept.trans ?_ (by assumption)))))).mono ?_; rintro e w6 ⟨rfl, hk6⟩; obtain ⟨f0, f1, f2, y0, y1, y2, r0, r1, r2, hKF⟩ := fin3a hrow (show Kept W2 w6 from (by repeat (first | assumption | exact Kept.refl _ | apply Kept.drew | apply Kept.drewN | apply Kept.alloc | refine Kept.trans ?_ (by assumption)))) (hK2.trans (show Kept W2 w6 from (by repeat (first | assumption | exact Kept.refl _ | apply Kept.drew | apply Kept.drewN | apply Kept.alloc | refine Kept.trans ?_ (by assumption))))) hge (.slice none 0 0) (.slice none 0 0) (.slice none 0 0)))
        exact bodyPost_ret (v := .tuple #[.agg #[.slice none 0 0, .slice none 0 0, .slice none 0 0], .int .i64 1]) (by simp [results, Try.results52, go_sem, r0, r1, r2]) rfl ⟨by show WithPost _ _ _ _ _ _ _ _ _ _ _ _; unfold WithPost; rw [if_neg (by rw [hb.out]; simp)]; exact ⟨rfl, hKF⟩, fun h => absurd h (by rw [hb.out]; simp)⟩
      | true =>
        go_enter Try.func52, Try.ntmps52
        go_wp2_with (first | (go_at_call 46; refine (TO.out _ hR2).mono ?_; intro e w3 hpp; have htn := hpp.2 E1.out; obtain ⟨tv, rfl, hT3, hk3⟩ := TreePost.ok E1.out hpp.1; obtain ⟨tv2, etv, htn⟩ := htn; injection etv with etv; injection etv with etv; have etv2 := congrArg (fun a => a.toList.head?) etv; simp only [List.head?_cons, Option.some.injEq] at etv2; subst etv2; obtain ⟨b0', o0', c0', b1', o1', c1', b2', o2', c2', rfl, _, _, _⟩ := id (hT3.open ok); obtain ⟨W4, hW4, hsz4, u0, u1, u2, hK4⟩ := newbox3 w3 w3.heap.size rfl (.slice (some ⟨b0', o0', none⟩) (roadR nO fO fL).n c0') (.slice (some ⟨b1', o1', none⟩) (roadR nO fO fL).n c1') (.slice (some ⟨b2', o2', none⟩) (roadR nO fO fL).n c2') 88) | (go_at_call 66; refine (AH.out _ _ (hT3.kept (by repeat (first | assumption | exact Kept.refl _ | apply Kept.drew | apply Kept.drewN | apply Kept.alloc | refine Kept.trans ?_ (by assumption)))) (hP2.kept (show Kept W2 _ from (by repeat (first | assumption | exact Kept.refl _ | apply Kept.drew | apply Kept.drewN | apply Kept.alloc | refine Kept.trans ?_ (by assumption)))))).mono ?_; rintro e w5 ⟨rfl, hk5⟩; obtain ⟨p0, p1, p2, _⟩ := keep3 u0 u1 u2 hk5) | (go_at_call 73; refine (AC.out _ _ (hT3.kept (by repeat (first | assumption | exact Kept.refl _ | apply Kept.drew | apply Kept.drewN | apply Kept.alloc | refine Kept.trans ?_ (by assumption)))) (hC2.kept (show Kept W2 _ from (by repeat (first | assumption | exact Kept.refl _ | apply Kept.drew | apply Kept.drewN | apply Kept.alloc | refine Kept.trans ?_ (by assumption)))))).mono ?_; rintro e w6 ⟨rfl, hk6⟩; obtain ⟨s0, s1, s2, _⟩ := keep3 p0 p1 p2 hk6; obtain ⟨f0, f1, f2, y0, y1, y2, r0, r1, r2, hKF⟩ := fin3a hrow (show Kept W2 w6 from (by repeat (first | assumption | exact Kept.refl _ | apply Kept.drew | apply Kept.drewN | apply Kept.alloc | refine Kept.trans ?_ (by assumption)))) (hK2.trans (show Kept W2 w6 from (by repeat (first | assumption | exact Kept.refl _ | apply Kept.drew | apply Kept.drewN | apply Kept.alloc | refine Kept.trans ?_ (by assumption))))) hge (.slice (some ⟨b0', o0', none⟩) (roadR nO fO fL).n c0') (.slice (some ⟨b1', o1', none⟩) (roadR nO fO fL).n c1') (.slice (some ⟨b2', o2', none⟩) (roadR nO fO fL).n c2')))
        exact bodyPost_ret (v := .tuple #[.agg #[.slice (some ⟨b0', o0', none⟩) (roadR nO fO fL).n c0', .slice (some ⟨b1', o1', none⟩) (roadR nO fO fL).n c1', .slice (some ⟨b2', o2', none⟩) (roadR nO fO fL).n c2'], .int .i64 0]) (by simp [results, Try.results52, go_sem, r0, r1, r2]) rfl ⟨by show WithPost _ _ _ _ _ _ _ _ _ _ _ _; unfold WithPost; rw [if_pos (by rw [hb.out]; rfl)]; exact ⟨_, rfl, TreeAt.keptY (hT3.kept (show Kept w3 w6 from (by repeat (first | assumption | exact Kept.refl _ | apply Kept.drew | apply Kept.drewN | apply Kept.alloc | refine Kept.trans ?_ (by assumption))))) hrow (show Kept W2 w6 from (by repeat (first | assumption | exact Kept.refl _ | apply Kept.drew | apply Kept.drewN | apply Kept.alloc | refine Kept.trans ?_ (by assumption)))) _ _ _, hKF⟩, fun _ => ⟨_, rfl, TreeNew.lower htn hK2.size⟩⟩
end Go.Proofs.Ytlgpclnmonpkjaa
